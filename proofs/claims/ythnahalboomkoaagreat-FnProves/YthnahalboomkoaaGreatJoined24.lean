/-
  Texts of one's own, joined.
-/
import Derived.Test.YthnahalboomkoaaGreatJoined5
import Derived.Test.YthnahalboomkoaaGreatTwoI

/-
  The walk of the program's curvePointOf, once more: what is no point is told by no pointer.
  (-DROP-: what the seat lacks is left out.)
-/
namespace Go.Proofs.YthnahalboomkoaaGreat
open Go.RowKit

set_option maxHeartbeats 1600000 in
set_option maxRecDepth 100000 in
theorem placeN_any (P : Pt) (w : World) :
    Calls Tryz.prog 68 #[pv P] w fun e w' => ∃ v', e = .returned (.tuple #[v', .bool (pOkB P)]) ∧ ((pOkB P = true → PAt w' v' P) ∧ (pOkB P = false → v' = .pointer none)) ∧ Below w.heap.size w w' := by
  obtain ⟨x, y, z⟩ := P
  unfold pOkB pv
  cases z
  · simp only [Bool.false_eq_true, if_false]
    have HA : Hid (∀ w, Calls Tryz.prog 141 #[.int .i64 x] w fun e w' => e = .returned (.bool (fpOk x)) ∧ w = w') := iOk_any x
    have HB : Hid (∀ w, Calls Tryz.prog 141 #[.int .i64 y] w fun e w' => e = .returned (.bool (fpOk y)) ∧ w = w') := iOk_any y
    have HM : Hid (fpOk y = true → ∀ w, Calls Tryz.prog 142 #[.int .i64 y, .int .i64 y] w fun e w' => e = .returned (.int .i64 (fpMul y y)) ∧ w = w') := fun h w => times_f (fi_ok h) (fi_ok h) w
    have HR : Hid (fpOk x = true → ∀ w, Calls Tryz.prog 138 #[.int .i64 x] w fun e w' => e = .returned (.int .i64 (rhs x)) ∧ w = w') := fun h w => curveAt_any (fi_ok h) w
    generalize fpOk x = p at HA HR ⊢
    generalize fpOk y = q at HB HM ⊢
    generalize fpMul y y = m at HM ⊢
    generalize rhs x = r at HR ⊢
    cases p
    · rw [show (false && q && m == r) = false from rfl]
      go_enter Tryz.func68, Tryz.ntmps68
      go_wp2_with fail
      obtain ⟨W, hW, hb, hx⟩ := box1 w 35 #[.int .i64 x, .int .i64 y, .bool false]
      rw [hW]
      clear hW
      refine (HA.out _).mono ?_
      rintro e w1 ⟨rfl, rfl⟩
      go_wp2
      go_ret2
      exact ⟨_, rfl, ⟨(fun h => by cases h), fun _ => rfl⟩, hb⟩
    · cases q
      · rw [show (true && false && m == r) = false from rfl]
        go_enter Tryz.func68, Tryz.ntmps68
        go_wp2_with fail
        obtain ⟨W, hW, hb, hx⟩ := box1 w 35 #[.int .i64 x, .int .i64 y, .bool false]
        rw [hW]
        clear hW
        have q0 := hx.cell 0
        have q1 := hx.cell 1
        refine (HA.out _).mono ?_
        rintro e w1 ⟨rfl, rfl⟩
        go_wp2_with fail
        refine (HB.out _).mono ?_
        rintro e w1 ⟨rfl, rfl⟩
        go_wp2
        go_ret2
        exact ⟨_, rfl, ⟨(fun h => by cases h), fun _ => rfl⟩, hb⟩
      · have HM' : Hid (∀ w, Calls Tryz.prog 142 #[.int .i64 y, .int .i64 y] w fun e w' => e = .returned (.int .i64 m) ∧ w = w') := HM.out rfl
        have HR' : Hid (∀ w, Calls Tryz.prog 138 #[.int .i64 x] w fun e w' => e = .returned (.int .i64 r) ∧ w = w') := HR.out rfl
        clear HM HR
        by_cases h : m = r
        · subst h
          rw [show (true && true && m == m) = true by simp]
          go_enter Tryz.func68, Tryz.ntmps68
          go_wp2_with fail
          obtain ⟨W, hW, hb, hx⟩ := box1 w 35 #[.int .i64 x, .int .i64 y, .bool false]
          rw [hW]
          clear hW
          have q0 := hx.cell 0
          have q1 := hx.cell 1
          refine (HA.out _).mono ?_
          rintro e w1 ⟨rfl, rfl⟩
          go_wp2_with fail
          refine (HB.out _).mono ?_
          rintro e w1 ⟨rfl, rfl⟩
          go_wp2_with fail
          obtain ⟨W2, hW2, hb2, hc⟩ := box1 W 172 #[.int .i64 x, .int .i64 y]
          rw [hW2]
          clear hW2 q0 q1
          have hB2 := below_then hb hb2
          clear hb hb2 hx
          refine wp_region_class 14 (fun wz => Below W2.heap.size W2 wz) mixes (by kernel_rfl) (Below.refl _ _).drew ?_
          simp only [List.take_succ_cons, List.take_zero, List.drop_succ_cons, List.drop_zero]
          repeat (refine cls_step rfl (fun K hK => ⟨_, (fun w' hw => by have q0 := (hc.on hw hc.lt).cell 0; have q1 := (hc.on hw hc.lt).cell 1; go_simp; exact rfl), ?_⟩); go_simp; refine hK _ ?_; clear hK K)
          refine cls_call rfl (fun K hK => ⟨_, _, _, (fun w' => by go_simp <;> first | exact rfl | exact ⟨rfl, rfl⟩), (fun w' hw => calls_same hw (HM'.out _)), ?_⟩); go_simp; refine hK _ ?_; clear hK K
          repeat (refine cls_step rfl (fun K hK => ⟨_, (fun w' hw => by have q0 := (hc.on hw hc.lt).cell 0; have q1 := (hc.on hw hc.lt).cell 1; go_simp; exact rfl), ?_⟩); go_simp; refine hK _ ?_; clear hK K)
          refine cls_call rfl (fun K hK => ⟨_, _, _, (fun w' => by go_simp <;> first | exact rfl | exact ⟨rfl, rfl⟩), (fun w' hw => calls_same hw (HR'.out _)), ?_⟩); go_simp; refine hK _ ?_; clear hK K
          refine wq_nil ?_
          intro w' hw
          have hc2 := hc.on hw hc.lt
          have hB3 := below_then hB2 hw
          clear hc hB2 hw
          go_wp2
          go_ret2
          exact ⟨_, rfl, ⟨fun _ => .inr ⟨_, x, y, rfl, rfl, hc2⟩, fun h => by cases h⟩, hB3⟩
        · have h' : (m == r) = false := by simp [h]
          rw [show (true && true && m == r) = false by rw [h']; rfl]
          go_enter Tryz.func68, Tryz.ntmps68
          go_wp2_with fail
          obtain ⟨W, hW, hb, hx⟩ := box1 w 35 #[.int .i64 x, .int .i64 y, .bool false]
          rw [hW]
          clear hW
          have q0 := hx.cell 0
          have q1 := hx.cell 1
          refine (HA.out _).mono ?_
          rintro e w1 ⟨rfl, rfl⟩
          go_wp2_with fail
          refine (HB.out _).mono ?_
          rintro e w1 ⟨rfl, rfl⟩
          go_wp2_with fail
          obtain ⟨W2, hW2, hb2, hc⟩ := box1 W 172 #[.int .i64 x, .int .i64 y]
          rw [hW2]
          clear hW2 q0 q1
          have hB2 := below_then hb hb2
          clear hb hb2 hx
          refine wp_region_class 14 (fun wz => Below W2.heap.size W2 wz) mixes (by kernel_rfl) (Below.refl _ _).drew ?_
          simp only [List.take_succ_cons, List.take_zero, List.drop_succ_cons, List.drop_zero]
          repeat (refine cls_step rfl (fun K hK => ⟨_, (fun w' hw => by have q0 := (hc.on hw hc.lt).cell 0; have q1 := (hc.on hw hc.lt).cell 1; go_simp; exact rfl), ?_⟩); go_simp; refine hK _ ?_; clear hK K)
          refine cls_call rfl (fun K hK => ⟨_, _, _, (fun w' => by go_simp <;> first | exact rfl | exact ⟨rfl, rfl⟩), (fun w' hw => calls_same hw (HM'.out _)), ?_⟩); go_simp; refine hK _ ?_; clear hK K
          repeat (refine cls_step rfl (fun K hK => ⟨_, (fun w' hw => by have q0 := (hc.on hw hc.lt).cell 0; have q1 := (hc.on hw hc.lt).cell 1; go_simp; exact rfl), ?_⟩); go_simp; refine hK _ ?_; clear hK K)
          refine cls_call rfl (fun K hK => ⟨_, _, _, (fun w' => by go_simp <;> first | exact rfl | exact ⟨rfl, rfl⟩), (fun w' hw => calls_same hw (HR'.out _)), ?_⟩); go_simp; refine hK _ ?_; clear hK K
          refine wq_nil ?_
          intro w' hw
          have hB3 := below_then hB2 hw
          clear hc hB2 hw
          go_wp2
          go_ret2
          exact ⟨_, rfl, ⟨(fun h => by cases h), fun _ => rfl⟩, hB3⟩
  · simp only [if_true]
    by_cases h0 : x = 0
    · subst h0
      rw [show ((0 : Int) == 0 && y == 0) = (y == 0) from rfl]
      go_enter Tryz.func68, Tryz.ntmps68
      go_wp2_with fail
      obtain ⟨W, hW, hb, hx⟩ := box1 w 35 #[.int .i64 0, .int .i64 y, .bool true]
      rw [hW]
      clear hW
      refine wp_region_class 9 (fun wz => Below W.heap.size W wz) mixes (by kernel_rfl) (Below.refl _ _).drew ?_
      simp only [List.take_succ_cons, List.take_zero, List.drop_succ_cons, List.drop_zero]
      repeat (refine cls_stepG rfl (fun K hK => ⟨_, (fun w' hw => by have q0 := (hx.on hw hx.lt).cell 0; have q1 := (hx.on hw hx.lt).cell 1; go_simp; exact rfl), ?_⟩); go_simp; refine hK _ ?_; clear hK K)
      refine wq_nil ?_
      intro w' hw
      have hB1 := below_then hb hw
      clear hb hx hw
      go_wp2
      go_ret2
      exact ⟨_, rfl, ⟨fun h => .inl ⟨rfl, by simp at h; rw [h]; rfl⟩, fun _ => rfl⟩, hB1⟩
    · have h0' : (x == 0) = false := by simp [h0]
      rw [h0', Bool.false_and]
      go_enter Tryz.func68, Tryz.ntmps68
      go_wp2_with fail
      obtain ⟨W, hW, hb, hx⟩ := box1 w 35 #[.int .i64 x, .int .i64 y, .bool true]
      rw [hW]
      clear hW
      refine wp_region_class 9 (fun wz => Below W.heap.size W wz) mixes (by kernel_rfl) (Below.refl _ _).drew ?_
      simp only [List.take_succ_cons, List.take_zero, List.drop_succ_cons, List.drop_zero]
      iterate 4 (refine cls_stepG rfl (fun K hK => ⟨_, (fun w' hw => by have q0 := (hx.on hw hx.lt).cell 0; have q1 := (hx.on hw hx.lt).cell 1; go_simp; exact rfl), ?_⟩); go_simp; refine hK _ ?_; clear hK K)
      iterate 3 (refine cls_skip rfl (fun K hK => ?_); go_simp; refine hK _ ?_; clear hK K)
      repeat (refine cls_stepG rfl (fun K hK => ⟨_, (fun w' hw => by have q0 := (hx.on hw hx.lt).cell 0; have q1 := (hx.on hw hx.lt).cell 1; go_simp; exact rfl), ?_⟩); go_simp; refine hK _ ?_; clear hK K)
      refine wq_nil ?_
      intro w' hw
      have hB1 := below_then hb hw
      clear hb hx hw
      go_wp2
      go_ret2
      exact ⟨_, rfl, ⟨(fun h => by cases h), fun _ => rfl⟩, hB1⟩

/-- A point, or Zero where it is none. -/
def nP (P : Pt) : Pt := if pOkB P = true then P else pZ
theorem np_ok (P : Pt) : POk (nP P) := by
  unfold nP
  by_cases h : pOkB P = true
  · rw [if_pos h]; exact pokB.1 h
  · rw [if_neg h]; exact .inl rfl

theorem placeZ_any (P : Pt) (w : World) :
    Calls Tryz.prog 68 #[pv P] w fun e w' => ∃ v', e = .returned (.tuple #[v', .bool (pOkB P)]) ∧ PAt w' v' (nP P) ∧ Below w.heap.size w w' := by
  refine (placeN_any P w).mono ?_
  rintro e w' ⟨v', rfl, ⟨h1, h2⟩, hb⟩
  refine ⟨v', rfl, ?_, hb⟩
  unfold nP
  cases h : pOkB P
  · rw [h2 h]; exact pat_zero _
  · exact h1 h

end Go.Proofs.YthnahalboomkoaaGreat

/-
  The walks of the program's powers two by two, and of what makes 1.
  (-DROP-: what the seat lacks is left out.)
-/
namespace Go.Proofs.YthnahalboomkoaaGreat
open Go.RowKit

set_option maxHeartbeats 800000 in
set_option maxRecDepth 100000 in
theorem power2_neg (x : Int × Int) (n : Int) (hn : n < 0) (w : World) :
    Calls Tryz.prog 189 #[tv x, .int .i64 n] w fun e w' => e = .returned (tv (0, 0)) ∧ Below w.heap.size w w' := by
  go_enter Tryz.func189, Tryz.ntmps189
  go_wp2
  refine bodyPost_ret_by (result_blk rfl rfl (Blk.newAt (by simp)) Tryz.underlying160 infoN) rfl ⟨rfl, ((Below.refl _ _).alloc (Nat.le_refl _) _).alloc (by simp) _⟩

/-- Four new blocks. -/
theorem boxes4 (w : World) (t1 t2 t3 t4 : TypeId) (c1 c2 c3 c4 : Array Value) : ∃ W, (((w.alloc (.cells c1 t1)).alloc (.cells c2 t2)).alloc (.cells c3 t3)).alloc (.cells c4 t4) = W ∧ Below w.heap.size w W ∧
    Blk W w.heap.size t1 c1 ∧ Blk W (w.heap.size + 1) t2 c2 ∧ Blk W (w.heap.size + 1 + 1) t3 c3 ∧ Blk W (w.heap.size + 1 + 1 + 1) t4 c4 :=
  ⟨_, rfl, ((((Below.refl _ _).alloc (Nat.le_refl _) _).alloc (by simp) _).alloc (by simp; omega) _).alloc (by simp; omega) _, (((Blk.new w t1 c1).alloc _).alloc _).alloc _, ((Blk.newAt (by simp)).alloc _).alloc _, (Blk.newAt (by simp)).alloc _, Blk.newAt (by simp)⟩

set_option maxHeartbeats 1600000 in
set_option maxRecDepth 100000 in
theorem power2_nat (x : Int × Int) (hx2 : In2 x) (n : Nat) (hn : n ≤ 9223372036854775807) (w : World) :
    Calls Tryz.prog 189 #[tv x, .int .i64 (n : Int)] w fun e w' => e = .returned (tv (fp2 (gp x n))) ∧ Below w.heap.size w w' := by
  have hn0 : ¬ (n : Int) < 0 := by omega
  obtain ⟨R, hR⟩ : ∃ R, R = fp2 (gp x n) := ⟨_, rfl⟩
  rw [← hR]
  have HR : Hid (R = fp2 (gp x n)) := hR
  have HX2 : Hid (In2 x) := hx2
  clear hR hx2
  go_enter Tryz.func189, Tryz.ntmps189
  go_wp2
  obtain ⟨W, hW, hb, -, h4, h5, h6⟩ := boxes4 w 160 160 160 160 #[.int .i64 x.1, .int .i64 x.2] #[.int .i64 0, .int .i64 0] #[.int .i64 1, .int .i64 0] #[.int .i64 x.1, .int .i64 x.2]
  rw [hW]
  clear hW
  go_loopw [1, 6] (fun m p wr => ∃ (k g : Nat) (r s : Int × Int), m = .int .i64 (k : Int) ∧ k ≤ n ∧ p = .pointer (some ⟨g, 0, none⟩) ∧ Blk wr (w.heap.size + 1) 160 #[.int .i64 0, .int .i64 0] ∧ Blk wr (w.heap.size + 1 + 1) 160 #[.int .i64 r.1, .int .i64 r.2] ∧ Blk wr g 160 #[.int .i64 s.1, .int .i64 s.2] ∧ w.heap.size + 1 + 1 < g ∧ Hid (In2 r ∧ In2 s) ∧ Hid (fp2 (gm r (gp s k)) = R) ∧ Below w.heap.size w wr) (fun m _ _ => (intOf m).toNat)
  case atStart => exact ⟨n, _, (1, 0), x, rfl, Nat.le_refl _, rfl, h4, h5, h6, by omega, ⟨⟨⟨by decide, by decide⟩, by decide, by decide⟩, HX2.out⟩, (show fp2 (gm (1, 0) (gp x n)) = R by rw [one_gm, HR.out]), hb⟩
  case round =>
    clear h4 h5 h6 hb
    obtain ⟨k, g, r, s, rfl, hk, rfl, h4, h5, h6, hg, HIn, HP, hb⟩ := hrel
    by_cases h0 : 0 < k
    · have h0' : (0 : Int) < (k : Int) := by omega
      have hq : Int.tdiv (k : Int) 2 = ((k / 2 : Nat) : Int) := by rw [Int.tdiv_eq_ediv_of_nonneg (by omega)]; omega
      have hqb : k / 2 < k := by omega
      have HS2 : Hid (In2 (tm s s)) := in2_fp2 _
      have HR2 : Hid (In2 (tm r s)) := in2_fp2 _
      have HC : Hid (∀ w, Calls Tryz.prog 134 #[tv r, tv s] w fun e w' => e = .returned (tv (tm r s)) ∧ Below w.heap.size w w') := times2_any r s HIn.out.1 HIn.out.2
      have HD : Hid (∀ w, Calls Tryz.prog 134 #[tv s, tv s] w fun e w' => e = .returned (tv (tm s s)) ∧ Below w.heap.size w w') := times2_any s s HIn.out.2 HIn.out.2
      by_cases h2 : k % 2 = 1
      · have h2' : Int.tmod (k : Int) 2 = 1 := by rw [Int.tmod_eq_emod_of_nonneg (by omega)]; omega
        have HN : Hid (fp2 (gm (tm r s) (gp (tm s s) (k / 2))) = R) := (tp_odd r s k h2).trans HP.out
        generalize tm r s = r2 at HN HC HR2
        generalize tm s s = s2 at HN HD HS2
        generalize k / 2 = k2 at HN hq hqb
        clear h2 HP
        go_wp2_with (first | (refine load_blk rfl rfl rfl h5 Tryz.underlying160 infoN ?_) | (refine load_blk rfl rfl rfl h6 Tryz.underlying160 infoN ?_))
        refine (HC.out _).mono ?_
        rintro e w1 ⟨rfl, hb1⟩
        have h4a := h4.on hb1 h4.lt
        have h5a := h5.on hb1 h5.lt
        have h6a := h6.on hb1 h6.lt
        have hba := below_then hb hb1
        clear h4 h5 h6 hb hb1
        go_wp2_with (first | (refine store_blk (cs' := #[.int .i64 r2.1, .int .i64 r2.2]) rfl rfl rfl rfl rfl h5a infoN rfl (ones2 _ _) ?_; intro w2 h5b hoth hbel; have h4b := hoth _ _ _ (by omega) h4a; have h6b := hoth _ _ _ (by omega) h6a; have hbb := hbel _ _ (by omega) hba; clear h4a h5a h6a hba hoth hbel) | (refine load_blk rfl rfl rfl h6b Tryz.underlying160 infoN ?_))
        refine (HD.out _).mono ?_
        rintro e w3 ⟨rfl, hb3⟩
        have h4c := h4b.on hb3 h4b.lt
        have h5c := h5b.on hb3 h5b.lt
        have h6c := h6b.on hb3 h6b.lt
        have hbc := below_then hbb hb3
        clear h4b h5b h6b hbb hb3
        go_wp2_with (first | (refine store_blk (cs' := #[.int .i64 s2.1, .int .i64 s2.2]) rfl rfl rfl rfl rfl h6c infoN rfl (ones2 _ _) ?_; intro w4 h6d hoth hbel; have h4d := hoth _ _ _ (by omega) h4c; have h5d := hoth _ _ _ (by omega) h5c; have hbd := hbel _ _ (by omega) hbc; clear h4c h5c h6c hbc hoth hbel) | (refine load_blk rfl rfl rfl h6d Tryz.underlying160 infoN ?_))
        go_roundw
        case rel => exact ⟨k2, w4.heap.size, r2, s2, by go_num, by omega, rfl, h4d.alloc _, h5d.alloc _, Blk.new w4 _ _, h5d.lt, ⟨HR2.out, HS2.out⟩, HN, hbd.alloc hbd.size _⟩
        case measure => simp [intOf]; omega
      · have h2' : Int.tmod (k : Int) 2 = 0 := by rw [Int.tmod_eq_emod_of_nonneg (by omega)]; omega
        have HN : Hid (fp2 (gm r (gp (tm s s) (k / 2))) = R) := (tp_even r s k (by omega)).trans HP.out
        generalize tm s s = s2 at HN HD HS2
        generalize k / 2 = k2 at HN hq hqb
        clear h2 HP
        go_wp2_with (refine load_blk rfl rfl rfl h6 Tryz.underlying160 infoN ?_)
        refine (HD.out _).mono ?_
        rintro e w3 ⟨rfl, hb3⟩
        have h4c := h4.on hb3 h4.lt
        have h5c := h5.on hb3 h5.lt
        have h6c := h6.on hb3 h6.lt
        have hbc := below_then hb hb3
        clear h4 h5 h6 hb hb3
        go_wp2_with (first | (refine store_blk (cs' := #[.int .i64 s2.1, .int .i64 s2.2]) rfl rfl rfl rfl rfl h6c infoN rfl (ones2 _ _) ?_; intro w4 h6d hoth hbel; have h4d := hoth _ _ _ (by omega) h4c; have h5d := hoth _ _ _ (by omega) h5c; have hbd := hbel _ _ (by omega) hbc; clear h4c h5c h6c hbc hoth hbel) | (refine load_blk rfl rfl rfl h6d Tryz.underlying160 infoN ?_))
        go_roundw
        case rel => exact ⟨k2, w4.heap.size, r, s2, by go_num, by omega, rfl, h4d.alloc _, h5d.alloc _, Blk.new w4 _ _, h5d.lt, ⟨HIn.out.1, HS2.out⟩, HN, hbd.alloc hbd.size _⟩
        case measure => simp [intOf]; omega
    · have h0' : ¬ (0 : Int) < (k : Int) := by omega
      obtain rfl : k = 0 := by omega
      have HF : Hid (R = r) := by
        have h := HP.out
        rw [show gp s 0 = (1, 0) from rfl, gm_one, fp2_in HIn.out.1] at h
        exact h.symm
      clear HP
      go_wp2_with (first | (refine load_blk rfl rfl rfl h5 Tryz.underlying160 infoN ?_) | (refine store_blk (cs' := #[.int .i64 r.1, .int .i64 r.2]) rfl rfl rfl rfl rfl h4 infoN rfl (ones2 _ _) ?_; intro w2 h4b hoth hbel; have hbb := hbel _ _ (by omega) hb; clear hoth hbel h4 h6 hb))
      refine bodyPost_ret_by (result_blk rfl rfl h4b Tryz.underlying160 infoN) rfl ⟨by rw [HF.out], hbb⟩

theorem power2_any (x : Int × Int) (hx2 : In2 x) (n : Int) (hn : n ≤ 9223372036854775807) (w : World) :
    Calls Tryz.prog 189 #[tv x, .int .i64 n] w fun e w' => e = .returned (tv (tp x n)) ∧ Below w.heap.size w w' := by
  by_cases h : n < 0
  · rw [tp_neg x h]; exact power2_neg x n h w
  · obtain ⟨k, rfl⟩ : ∃ k : Nat, n = k := ⟨n.toNat, by omega⟩
    rw [tp_nat]
    exact power2_nat x hx2 k (by omega) w

end Go.Proofs.YthnahalboomkoaaGreat

/-
  The walks of the program's inverse two by two, and of its outer functions.
  (-DROP-: what the seat lacks is left out.)
-/
namespace Go.Proofs.YthnahalboomkoaaGreat
open Go.RowKit

theorem in2_tt {x : Int × Int} (h : In2 x) : In2 (tt x) := ⟨h.1, fp_nonneg _, fp_lt _⟩
theorem in2_tn (x : Int × Int) : In2 (tn x, 0) := ⟨fpPow_bounds (x.1 * x.1 + x.2 * x.2) 12105, Int.le_refl 0, Int.lt_of_le_of_lt (Int.le_refl 0) (by decide : (0 : Int) < 12107)⟩
theorem ti_by (x : Int × Int) : tm (tt x) (tn x, 0) = ti x := by
  unfold tm ti
  rw [show tt x = (x.1, fp (0 - x.2)) from rfl]
  generalize tn x = n
  obtain ⟨k, hk⟩ := fp_rep (0 - x.2)
  unfold fp2 gm
  ext
  · simp
  · simp only [hk]
    exact fp_to (k * n) (by grind)

set_option maxHeartbeats 800000 in
set_option maxRecDepth 100000 in
theorem inverse2_zero (w : World) :
    Calls Tryz.prog 188 #[tv (0, 0)] w fun e w' => e = .returned (tv (0, 0)) ∧ Below w.heap.size w w' := by
  go_enter Tryz.func188, Tryz.ntmps188
  go_wp2
  refine bodyPost_ret_by (result_blk rfl rfl (Blk.newAt (by simp)) Tryz.underlying160 infoN) rfl ⟨rfl, ((Below.refl _ _).alloc (Nat.le_refl _) _).alloc (by simp) _⟩

set_option maxHeartbeats 800000 in
set_option maxRecDepth 100000 in
theorem inverse2_a (a b : Int) (hx2 : In2 (a, b)) (h0 : ¬ a = 0) (w : World) :
    Calls Tryz.prog 188 #[tv (a, b)] w fun e w' => e = .returned (tv (ti (a, b))) ∧ Below w.heap.size w w' := by
  have HT : Hid (∀ w, Calls Tryz.prog 187 #[tv (a, b)] w fun e w' => e = .returned (tv (tt (a, b))) ∧ Below w.heap.size w w') := turned_any _ hx2
  have HM : Hid (∀ w, Calls Tryz.prog 134 #[tv (a, b), tv (tt (a, b))] w fun e w' => e = .returned (tv (fp (a * a + b * b), 0)) ∧ Below w.heap.size w w') := by
    have h := times2_any (a, b) (tt (a, b)) hx2 (in2_tt hx2)
    rw [tm_turned] at h
    exact h
  have HI : Hid (∀ w, Calls Tryz.prog 191 #[.int .i64 (fp (a * a + b * b))] w fun e w' => e = .returned (.int .i64 (tn (a, b))) ∧ w = w') := by
    have h := inverse_any (fp (a * a + b * b)) (fp_nonneg _) (fp_lt _)
    rw [fpPow_fp0] at h
    exact h
  have HN : Hid (∀ w, Calls Tryz.prog 134 #[tv (tt (a, b)), tv (tn (a, b), 0)] w fun e w' => e = .returned (tv (ti (a, b))) ∧ Below w.heap.size w w') := by
    have h := times2_any (tt (a, b)) (tn (a, b), 0) (in2_tt hx2) (in2_tn _)
    rw [ti_by] at h
    exact h
  generalize fp (a * a + b * b) = q at HM HI
  generalize tt (a, b) = u at HT HM HN
  generalize tn (a, b) = m at HI HN
  generalize ti (a, b) = v at HN ⊢
  clear hx2
  go_enter Tryz.func188, Tryz.ntmps188
  go_wp2
  obtain ⟨W, hW, hb, hx, hr⟩ := boxes1r w 160 160 #[.int .i64 a, .int .i64 b] #[.int .i64 0, .int .i64 0]
  rw [hW]
  clear hW
  refine wp_region_made 4 mixes (by kernel_rfl) rfl rfl (fun a w => by go_simp <;> rfl) ?_
  simp only [List.take_succ_cons, List.take_zero, List.drop_succ_cons, List.drop_zero]
  repeat (refine bel_step rfl (fun K hK => ⟨_, (fun w' hw => by have q0 := (hx.on hw hx.lt).cell 0; have q1 := (hx.on hw hx.lt).cell 1; go_simp; exact rfl), ?_⟩); go_simp; refine hK _ ?_; clear hK K)
  refine bel_call rfl (fun K hK => ⟨_, _, _, (fun w' => by go_simp <;> first | exact rfl | exact ⟨rfl, rfl⟩), (fun w' hw => HT.out _), ?_⟩); go_simp; refine hK _ ?_; clear hK K
  refine bel_call rfl (fun K hK => ⟨_, _, _, (fun w' => by go_simp <;> first | exact rfl | exact ⟨rfl, rfl⟩), (fun w' hw => HM.out _), ?_⟩); go_simp; refine hK _ ?_; clear hK K
  refine bel_nil ?_
  intro gn w' hw hgn hnew
  refine frame_out fun K hK => ?_
  go_simp
  refine hK _ ?_
  clear hK K
  go_wp2_with (refine store_blk (cs' := #[.int .i64 q, .int .i64 0]) rfl rfl rfl rfl rfl hnew infoN rfl (ones2 _ _) ?_; intro V hd hoth hbel)
  have hxV := hoth _ _ _ (by have := hx.lt; omega) (hx.on hw hx.lt)
  have hrV := hoth _ _ _ (by have := hr.lt; omega) (hr.on hw hr.lt)
  have hbb := hbel _ _ (by have := hx.lt; omega) (below_then hb hw)
  clear hoth hbel hnew hgn
  clear hx hr hb hw
  refine wp_region_class 7 (fun wz => Below V.heap.size V wz) mixes (by kernel_rfl) (Below.refl _ _).drew ?_
  simp only [List.take_succ_cons, List.take_zero, List.drop_succ_cons, List.drop_zero]
  repeat (refine cls_step rfl (fun K hK => ⟨_, (fun w' hw => by have q0 := (hxV.on hw hxV.lt).cell 0; have q1 := (hxV.on hw hxV.lt).cell 1; have q2 := (hd.on hw hd.lt).cell 0; have q3 := (hd.on hw hd.lt).cell 1; go_simp; exact rfl), ?_⟩); go_simp; refine hK _ ?_; clear hK K)
  refine cls_call rfl (fun K hK => ⟨_, _, _, (fun w' => by go_simp <;> first | exact rfl | exact ⟨rfl, rfl⟩), (fun w' hw => calls_below hw (HT.out _)), ?_⟩); go_simp; refine hK _ ?_; clear hK K
  repeat (refine cls_step rfl (fun K hK => ⟨_, (fun w' hw => by have q0 := (hxV.on hw hxV.lt).cell 0; have q1 := (hxV.on hw hxV.lt).cell 1; have q2 := (hd.on hw hd.lt).cell 0; have q3 := (hd.on hw hd.lt).cell 1; go_simp; exact rfl), ?_⟩); go_simp; refine hK _ ?_; clear hK K)
  refine cls_call rfl (fun K hK => ⟨_, _, _, (fun w' => by go_simp <;> first | exact rfl | exact ⟨rfl, rfl⟩), (fun w' hw => calls_same hw (HI.out _)), ?_⟩); go_simp; refine hK _ ?_; clear hK K
  repeat (refine cls_step rfl (fun K hK => ⟨_, (fun w' hw => by have q0 := (hxV.on hw hxV.lt).cell 0; have q1 := (hxV.on hw hxV.lt).cell 1; have q2 := (hd.on hw hd.lt).cell 0; have q3 := (hd.on hw hd.lt).cell 1; go_simp; exact rfl), ?_⟩); go_simp; refine hK _ ?_; clear hK K)
  refine cls_call rfl (fun K hK => ⟨_, _, _, (fun w' => by go_simp <;> first | exact rfl | exact ⟨rfl, rfl⟩), (fun w' hw => calls_below hw (HN.out _)), ?_⟩); go_simp; refine hK _ ?_; clear hK K
  refine wq_nil ?_
  intro w' hw
  have q0 := (hrV.on hw hrV.lt).cell 0
  have r0 := (hrV.on hw hrV.lt).free 0
  have q1 := (hrV.on hw hrV.lt).cell 1
  have r1 := (hrV.on hw hrV.lt).free 1
  go_wp2
  refine bodyPost_ret_by (result_blk rfl rfl (((hrV.on hw hrV.lt).set 0 _).set 1 _) Tryz.underlying160 infoN) rfl ⟨rfl, ((below_then hbb hw).setCell (by simp) _).setCell (by simp) _⟩

set_option maxHeartbeats 800000 in
set_option maxRecDepth 100000 in
theorem inverse2_b (b : Int) (hx2 : In2 (0, b)) (h0 : ¬ b = 0) (w : World) :
    Calls Tryz.prog 188 #[tv (0, b)] w fun e w' => e = .returned (tv (ti (0, b))) ∧ Below w.heap.size w w' := by
  have HT : Hid (∀ w, Calls Tryz.prog 187 #[tv (0, b)] w fun e w' => e = .returned (tv (tt (0, b))) ∧ Below w.heap.size w w') := turned_any _ hx2
  have HM : Hid (∀ w, Calls Tryz.prog 134 #[tv (0, b), tv (tt (0, b))] w fun e w' => e = .returned (tv (fp (0 * 0 + b * b), 0)) ∧ Below w.heap.size w w') := by
    have h := times2_any (0, b) (tt (0, b)) hx2 (in2_tt hx2)
    rw [tm_turned] at h
    exact h
  have HI : Hid (∀ w, Calls Tryz.prog 191 #[.int .i64 (fp (0 * 0 + b * b))] w fun e w' => e = .returned (.int .i64 (tn (0, b))) ∧ w = w') := by
    have h := inverse_any (fp (0 * 0 + b * b)) (fp_nonneg _) (fp_lt _)
    rw [fpPow_fp0] at h
    exact h
  have HN : Hid (∀ w, Calls Tryz.prog 134 #[tv (tt (0, b)), tv (tn (0, b), 0)] w fun e w' => e = .returned (tv (ti (0, b))) ∧ Below w.heap.size w w') := by
    have h := times2_any (tt (0, b)) (tn (0, b), 0) (in2_tt hx2) (in2_tn _)
    rw [ti_by] at h
    exact h
  generalize fp (0 * 0 + b * b) = q at HM HI
  generalize tt (0, b) = u at HT HM HN
  generalize tn (0, b) = m at HI HN
  generalize ti (0, b) = v at HN ⊢
  clear hx2
  go_enter Tryz.func188, Tryz.ntmps188
  go_wp2
  obtain ⟨W, hW, hb, hx, hr⟩ := boxes1r w 160 160 #[.int .i64 0, .int .i64 b] #[.int .i64 0, .int .i64 0]
  rw [hW]
  clear hW
  refine wp_region_made 4 mixes (by kernel_rfl) rfl rfl (fun a w => by go_simp <;> rfl) ?_
  simp only [List.take_succ_cons, List.take_zero, List.drop_succ_cons, List.drop_zero]
  repeat (refine bel_step rfl (fun K hK => ⟨_, (fun w' hw => by have q0 := (hx.on hw hx.lt).cell 0; have q1 := (hx.on hw hx.lt).cell 1; go_simp; exact rfl), ?_⟩); go_simp; refine hK _ ?_; clear hK K)
  refine bel_call rfl (fun K hK => ⟨_, _, _, (fun w' => by go_simp <;> first | exact rfl | exact ⟨rfl, rfl⟩), (fun w' hw => HT.out _), ?_⟩); go_simp; refine hK _ ?_; clear hK K
  refine bel_call rfl (fun K hK => ⟨_, _, _, (fun w' => by go_simp <;> first | exact rfl | exact ⟨rfl, rfl⟩), (fun w' hw => HM.out _), ?_⟩); go_simp; refine hK _ ?_; clear hK K
  refine bel_nil ?_
  intro gn w' hw hgn hnew
  refine frame_out fun K hK => ?_
  go_simp
  refine hK _ ?_
  clear hK K
  go_wp2_with (refine store_blk (cs' := #[.int .i64 q, .int .i64 0]) rfl rfl rfl rfl rfl hnew infoN rfl (ones2 _ _) ?_; intro V hd hoth hbel)
  have hxV := hoth _ _ _ (by have := hx.lt; omega) (hx.on hw hx.lt)
  have hrV := hoth _ _ _ (by have := hr.lt; omega) (hr.on hw hr.lt)
  have hbb := hbel _ _ (by have := hx.lt; omega) (below_then hb hw)
  clear hoth hbel hnew hgn
  clear hx hr hb hw
  refine wp_region_class 7 (fun wz => Below V.heap.size V wz) mixes (by kernel_rfl) (Below.refl _ _).drew ?_
  simp only [List.take_succ_cons, List.take_zero, List.drop_succ_cons, List.drop_zero]
  repeat (refine cls_step rfl (fun K hK => ⟨_, (fun w' hw => by have q0 := (hxV.on hw hxV.lt).cell 0; have q1 := (hxV.on hw hxV.lt).cell 1; have q2 := (hd.on hw hd.lt).cell 0; have q3 := (hd.on hw hd.lt).cell 1; go_simp; exact rfl), ?_⟩); go_simp; refine hK _ ?_; clear hK K)
  refine cls_call rfl (fun K hK => ⟨_, _, _, (fun w' => by go_simp <;> first | exact rfl | exact ⟨rfl, rfl⟩), (fun w' hw => calls_below hw (HT.out _)), ?_⟩); go_simp; refine hK _ ?_; clear hK K
  repeat (refine cls_step rfl (fun K hK => ⟨_, (fun w' hw => by have q0 := (hxV.on hw hxV.lt).cell 0; have q1 := (hxV.on hw hxV.lt).cell 1; have q2 := (hd.on hw hd.lt).cell 0; have q3 := (hd.on hw hd.lt).cell 1; go_simp; exact rfl), ?_⟩); go_simp; refine hK _ ?_; clear hK K)
  refine cls_call rfl (fun K hK => ⟨_, _, _, (fun w' => by go_simp <;> first | exact rfl | exact ⟨rfl, rfl⟩), (fun w' hw => calls_same hw (HI.out _)), ?_⟩); go_simp; refine hK _ ?_; clear hK K
  repeat (refine cls_step rfl (fun K hK => ⟨_, (fun w' hw => by have q0 := (hxV.on hw hxV.lt).cell 0; have q1 := (hxV.on hw hxV.lt).cell 1; have q2 := (hd.on hw hd.lt).cell 0; have q3 := (hd.on hw hd.lt).cell 1; go_simp; exact rfl), ?_⟩); go_simp; refine hK _ ?_; clear hK K)
  refine cls_call rfl (fun K hK => ⟨_, _, _, (fun w' => by go_simp <;> first | exact rfl | exact ⟨rfl, rfl⟩), (fun w' hw => calls_below hw (HN.out _)), ?_⟩); go_simp; refine hK _ ?_; clear hK K
  refine wq_nil ?_
  intro w' hw
  have q0 := (hrV.on hw hrV.lt).cell 0
  have r0 := (hrV.on hw hrV.lt).free 0
  have q1 := (hrV.on hw hrV.lt).cell 1
  have r1 := (hrV.on hw hrV.lt).free 1
  go_wp2
  refine bodyPost_ret_by (result_blk rfl rfl (((hrV.on hw hrV.lt).set 0 _).set 1 _) Tryz.underlying160 infoN) rfl ⟨rfl, ((below_then hbb hw).setCell (by simp) _).setCell (by simp) _⟩

theorem inverse2_any (x : Int × Int) (hx2 : In2 x) (w : World) :
    Calls Tryz.prog 188 #[tv x] w fun e w' => e = .returned (tv (ti x)) ∧ Below w.heap.size w w' := by
  obtain ⟨a, b⟩ := x
  by_cases ha : a = 0
  · subst ha
    by_cases hb : b = 0
    · subst hb
      rw [show ti (0, 0) = (0, 0) by unfold ti fp2; simp; rfl]
      exact inverse2_zero w
    · exact inverse2_b b hx2 hb w
  · exact inverse2_a a b hx2 ha w

end Go.Proofs.YthnahalboomkoaaGreat
