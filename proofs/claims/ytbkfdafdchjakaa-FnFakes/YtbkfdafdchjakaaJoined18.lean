/-
  Texts of one's own, joined.
-/
import Derived.Test.YtbkfdafdchjakaaPtC2

/-
  The walks of the program's places on the curve: sums, the place of a point.
  (-DROP-: what the seat lacks is left out.)
-/
namespace Go.Proofs.Ytbkfdafdchjakaa
open Go.RowKit

theorem fi_ok {a : Int} (h : fpOk a = true) : Fi a := by
  have h' : decide (0 ≤ a ∧ a < 12107) = true := h
  have h2 : 0 ≤ a ∧ a < 12107 := by simpa using h'
  exact h2

theorem fi_slope (P Q : Pt) : Fi (pSlope P Q).1 := by
  unfold pSlope
  split
  · exact fi_mul _ _
  · split
    · exact fi_0
    · exact fi_mul _ _

theorem padd_third (x y u v : Int) : pAdd (x, y, false) (u, v, false) = if (pSlope (x, y, false) (u, v, false)).2 = true then pThird x y u (pSlope (x, y, false) (u, v, false)).1 else pZ := by
  rw [padd_slope]
  simp

set_option maxHeartbeats 1600000 in
set_option maxRecDepth 100000 in
theorem plusC_any (v u : Value) (P Q : Pt) (w : World) (hp : PAt w v P) (hq : PAt w u Q) (hP : POk P) (hQ : POk Q) :
    Calls Try.prog 82 #[v, u] w fun e w' => ∃ v', e = .returned v' ∧ PAt w' v' (pAdd P Q) ∧ Below w.heap.size w w' := by
  rcases hp with ⟨rfl, rfl⟩ | ⟨b, x, y, rfl, rfl, hx⟩
  · have HQ : Hid (PAt w u (pAdd pZ Q)) := hq
    clear hP hQ hq
    go_enter Try.func82, Try.ntmps82
    go_wp2
    go_ret
    exact ⟨_, rfl, HQ.out, Below.refl _ _⟩
  · rcases hq with ⟨rfl, rfl⟩ | ⟨c, s, t, rfl, rfl, hy⟩
    · have HP : Hid (PAt w (.pointer (some ⟨b, 0, none⟩)) (pAdd (x, y, false) pZ)) := Or.inr ⟨b, x, y, rfl, rfl, hx⟩
      clear hP hQ hx
      go_enter Try.func82, Try.ntmps82
      go_wp2
      go_ret
      exact ⟨_, rfl, HP.out, Below.refl _ _⟩
    · have Fx : Hid (Fi x) := (pok_xy hP).1
      have Fy : Hid (Fi y) := (pok_xy hP).2
      have Fs : Hid (Fi s) := (pok_xy hQ).1
      have Fl : Hid (Fi (pSlope (x, y, false) (s, t, false)).1) := fi_slope _ _
      have HL : Hid (Calls Try.prog 100 #[.pointer (some ⟨b, 0, none⟩), .pointer (some ⟨c, 0, none⟩)] w fun e w' => e = .returned (.tuple #[.int .i64 (pSlope (x, y, false) (s, t, false)).1, .bool (pSlope (x, y, false) (s, t, false)).2]) ∧ Below w.heap.size w w') := slopeTo_any b c x y s t w hx hy Fx.out Fy.out Fs.out (pok_xy hQ).2
      have HE : Hid (pAdd (x, y, false) (s, t, false) = if (pSlope (x, y, false) (s, t, false)).2 = true then pThird x y s (pSlope (x, y, false) (s, t, false)).1 else pZ) := padd_third x y s t
      clear hP hQ
      generalize pSlope (x, y, false) (s, t, false) = S at Fl HL HE
      obtain ⟨l, ok⟩ := S
      cases ok
      · go_enter Try.func82, Try.ntmps82
        go_wp2_with fail
        refine HL.out.mono ?_
        rintro e w1 ⟨rfl, hb1⟩
        clear hx hy HL
        go_wp2
        go_ret
        exact ⟨_, rfl, by rw [HE.out]; exact pat_zero _, hb1⟩
      · go_enter Try.func82, Try.ntmps82
        go_wp2_with fail
        refine HL.out.mono ?_
        rintro e w1 ⟨rfl, hb1⟩
        have hx1 := hx.on hb1 hx.lt
        have hy1 := hy.on hb1 hy.lt
        clear hx hy HL
        go_wp2_with fail
        refine wp_region_class 13 (fun wz => Below w1.heap.size w1 wz) mixes (by kernel_rfl) (Below.refl _ _).drew ?_
        simp only [List.take_succ_cons, List.take_zero, List.drop_succ_cons, List.drop_zero]
        repeat (refine cls_step rfl (fun K hK => ⟨_, (fun w' hw => by have q0 := (hx1.on hw hx1.lt).cell 0; have q1 := (hx1.on hw hx1.lt).cell 1; have q2 := (hy1.on hw hy1.lt).cell 0; have q3 := (hy1.on hw hy1.lt).cell 1; go_simp; exact rfl), ?_⟩); go_simp; refine hK _ ?_; clear hK K)
        refine cls_call rfl (fun K hK => ⟨_, _, _, (fun w' => by go_simp <;> first | exact rfl | exact ⟨rfl, rfl⟩), (fun w' hw => calls_same hw (times_f Fl.out Fl.out _)), ?_⟩); go_simp; refine hK _ ?_; clear hK K
        repeat (refine cls_step rfl (fun K hK => ⟨_, (fun w' hw => by have q0 := (hx1.on hw hx1.lt).cell 0; have q1 := (hx1.on hw hx1.lt).cell 1; have q2 := (hy1.on hw hy1.lt).cell 0; have q3 := (hy1.on hw hy1.lt).cell 1; go_simp; exact rfl), ?_⟩); go_simp; refine hK _ ?_; clear hK K)
        refine cls_call rfl (fun K hK => ⟨_, _, _, (fun w' => by go_simp <;> first | exact rfl | exact ⟨rfl, rfl⟩), (fun w' hw => calls_same hw (minus_f (fi_mul _ _) Fx.out _)), ?_⟩); go_simp; refine hK _ ?_; clear hK K
        repeat (refine cls_step rfl (fun K hK => ⟨_, (fun w' hw => by have q0 := (hx1.on hw hx1.lt).cell 0; have q1 := (hx1.on hw hx1.lt).cell 1; have q2 := (hy1.on hw hy1.lt).cell 0; have q3 := (hy1.on hw hy1.lt).cell 1; go_simp; exact rfl), ?_⟩); go_simp; refine hK _ ?_; clear hK K)
        refine cls_call rfl (fun K hK => ⟨_, _, _, (fun w' => by go_simp <;> first | exact rfl | exact ⟨rfl, rfl⟩), (fun w' hw => calls_same hw (minus_f (fi_sub _ _) Fs.out _)), ?_⟩); go_simp; refine hK _ ?_; clear hK K
        refine wq_nil ?_
        intro w' hw
        have hx2 := hx1.on hw hx1.lt
        have hB2 := below_then hb1 hw
        clear hx1 hy1 hb1 hw
        go_wp2_with fail
        refine wp_region_class 15 (fun wz => Below w'.heap.size w' wz) mixes (by kernel_rfl) (Below.refl _ _).drew ?_
        simp only [List.take_succ_cons, List.take_zero, List.drop_succ_cons, List.drop_zero]
        repeat (refine cls_step rfl (fun K hK => ⟨_, (fun w' hw => by have q0 := (hx2.on hw hx2.lt).cell 0; have q1 := (hx2.on hw hx2.lt).cell 1; go_simp; exact rfl), ?_⟩); go_simp; refine hK _ ?_; clear hK K)
        refine cls_call rfl (fun K hK => ⟨_, _, _, (fun w' => by go_simp <;> first | exact rfl | exact ⟨rfl, rfl⟩), (fun w' hw => calls_same hw (minus_f Fx.out (fi_sub _ _) _)), ?_⟩); go_simp; refine hK _ ?_; clear hK K
        refine cls_call rfl (fun K hK => ⟨_, _, _, (fun w' => by go_simp <;> first | exact rfl | exact ⟨rfl, rfl⟩), (fun w' hw => calls_same hw (times_f Fl.out (fi_sub _ _) _)), ?_⟩); go_simp; refine hK _ ?_; clear hK K
        repeat (refine cls_step rfl (fun K hK => ⟨_, (fun w' hw => by have q0 := (hx2.on hw hx2.lt).cell 0; have q1 := (hx2.on hw hx2.lt).cell 1; go_simp; exact rfl), ?_⟩); go_simp; refine hK _ ?_; clear hK K)
        refine cls_call rfl (fun K hK => ⟨_, _, _, (fun w' => by go_simp <;> first | exact rfl | exact ⟨rfl, rfl⟩), (fun w' hw => calls_same hw (minus_f (fi_mul _ _) Fy.out _)), ?_⟩); go_simp; refine hK _ ?_; clear hK K
        repeat (refine cls_step rfl (fun K hK => ⟨_, (fun w' hw => by have q0 := (hx2.on hw hx2.lt).cell 0; have q1 := (hx2.on hw hx2.lt).cell 1; go_simp; exact rfl), ?_⟩); go_simp; refine hK _ ?_; clear hK K)
        refine wq_nil ?_
        intro w' hw
        have hB3 := below_then hB2 hw
        clear hx2 hB2 hw
        go_wp2
        go_ret
        exact ⟨_, rfl, .inr ⟨_, _, _, rfl, by rw [HE.out]; rfl, Blk.new w' _ _⟩, hB3.alloc hB3.size _⟩

set_option maxHeartbeats 1600000 in
set_option maxRecDepth 100000 in
theorem placeOf_any (P : Pt) (w : World) :
    Calls Try.prog 55 #[pv P] w fun e w' => ∃ v', e = .returned (.tuple #[v', .bool (pOkB P)]) ∧ (pOkB P = true → PAt w' v' P) ∧ Below w.heap.size w w' := by
  obtain ⟨x, y, z⟩ := P
  unfold pOkB pv
  cases z
  · simp only [Bool.false_eq_true, if_false]
    have HA : Hid (∀ w, Calls Try.prog 78 #[.int .i64 x] w fun e w' => e = .returned (.bool (fpOk x)) ∧ w = w') := iOk_any x
    have HB : Hid (∀ w, Calls Try.prog 78 #[.int .i64 y] w fun e w' => e = .returned (.bool (fpOk y)) ∧ w = w') := iOk_any y
    have HM : Hid (fpOk y = true → ∀ w, Calls Try.prog 79 #[.int .i64 y, .int .i64 y] w fun e w' => e = .returned (.int .i64 (fpMul y y)) ∧ w = w') := fun h w => times_f (fi_ok h) (fi_ok h) w
    have HR : Hid (fpOk x = true → ∀ w, Calls Try.prog 80 #[.int .i64 x] w fun e w' => e = .returned (.int .i64 (rhs x)) ∧ w = w') := fun h w => curveAt_any (fi_ok h) w
    generalize fpOk x = p at HA HR ⊢
    generalize fpOk y = q at HB HM ⊢
    generalize fpMul y y = m at HM ⊢
    generalize rhs x = r at HR ⊢
    cases p
    · rw [show (false && q && m == r) = false from rfl]
      go_enter Try.func55, Try.ntmps55
      go_wp2_with fail
      obtain ⟨W, hW, hb, hx⟩ := box1 w 35 #[.int .i64 x, .int .i64 y, .bool false]
      rw [hW]
      clear hW
      refine (HA.out _).mono ?_
      rintro e w1 ⟨rfl, rfl⟩
      go_wp2
      go_ret2
      exact ⟨_, rfl, (fun h => by cases h), hb⟩
    · cases q
      · rw [show (true && false && m == r) = false from rfl]
        go_enter Try.func55, Try.ntmps55
        go_wp2_with fail
        obtain ⟨W, hW, hb, hx⟩ := box1 w 35 #[.int .i64 x, .int .i64 y, .bool false]
        rw [hW]
        clear hW
        have q0 := hx.cell 0
        have q1 := hx.cell 1
        refine (HA.out _).mono ?_
        rintro e w1 ⟨rfl, rfl⟩
        go_wp2_with fail
        refine (HB.out _).mono ?_
        rintro e w1 ⟨rfl, rfl⟩
        go_wp2
        go_ret2
        exact ⟨_, rfl, (fun h => by cases h), hb⟩
      · have HM' : Hid (∀ w, Calls Try.prog 79 #[.int .i64 y, .int .i64 y] w fun e w' => e = .returned (.int .i64 m) ∧ w = w') := HM.out rfl
        have HR' : Hid (∀ w, Calls Try.prog 80 #[.int .i64 x] w fun e w' => e = .returned (.int .i64 r) ∧ w = w') := HR.out rfl
        clear HM HR
        by_cases h : m = r
        · subst h
          rw [show (true && true && m == m) = true by simp]
          go_enter Try.func55, Try.ntmps55
          go_wp2_with fail
          obtain ⟨W, hW, hb, hx⟩ := box1 w 35 #[.int .i64 x, .int .i64 y, .bool false]
          rw [hW]
          clear hW
          have q0 := hx.cell 0
          have q1 := hx.cell 1
          refine (HA.out _).mono ?_
          rintro e w1 ⟨rfl, rfl⟩
          go_wp2_with fail
          refine (HB.out _).mono ?_
          rintro e w1 ⟨rfl, rfl⟩
          go_wp2_with fail
          obtain ⟨W2, hW2, hb2, hc⟩ := box1 W 127 #[.int .i64 x, .int .i64 y]
          rw [hW2]
          clear hW2 q0 q1
          have hB2 := below_then hb hb2
          clear hb hb2 hx
          refine wp_region_class 14 (fun wz => Below W2.heap.size W2 wz) mixes (by kernel_rfl) (Below.refl _ _).drew ?_
          simp only [List.take_succ_cons, List.take_zero, List.drop_succ_cons, List.drop_zero]
          repeat (refine cls_step rfl (fun K hK => ⟨_, (fun w' hw => by have q0 := (hc.on hw hc.lt).cell 0; have q1 := (hc.on hw hc.lt).cell 1; go_simp; exact rfl), ?_⟩); go_simp; refine hK _ ?_; clear hK K)
          refine cls_call rfl (fun K hK => ⟨_, _, _, (fun w' => by go_simp <;> first | exact rfl | exact ⟨rfl, rfl⟩), (fun w' hw => calls_same hw (HM'.out _)), ?_⟩); go_simp; refine hK _ ?_; clear hK K
          repeat (refine cls_step rfl (fun K hK => ⟨_, (fun w' hw => by have q0 := (hc.on hw hc.lt).cell 0; have q1 := (hc.on hw hc.lt).cell 1; go_simp; exact rfl), ?_⟩); go_simp; refine hK _ ?_; clear hK K)
          refine cls_call rfl (fun K hK => ⟨_, _, _, (fun w' => by go_simp <;> first | exact rfl | exact ⟨rfl, rfl⟩), (fun w' hw => calls_same hw (HR'.out _)), ?_⟩); go_simp; refine hK _ ?_; clear hK K
          refine wq_nil ?_
          intro w' hw
          have hc2 := hc.on hw hc.lt
          have hB3 := below_then hB2 hw
          clear hc hB2 hw
          go_wp2
          go_ret2
          exact ⟨_, rfl, fun _ => .inr ⟨_, x, y, rfl, rfl, hc2⟩, hB3⟩
        · have h' : (m == r) = false := by simp [h]
          rw [show (true && true && m == r) = false by rw [h']; rfl]
          go_enter Try.func55, Try.ntmps55
          go_wp2_with fail
          obtain ⟨W, hW, hb, hx⟩ := box1 w 35 #[.int .i64 x, .int .i64 y, .bool false]
          rw [hW]
          clear hW
          have q0 := hx.cell 0
          have q1 := hx.cell 1
          refine (HA.out _).mono ?_
          rintro e w1 ⟨rfl, rfl⟩
          go_wp2_with fail
          refine (HB.out _).mono ?_
          rintro e w1 ⟨rfl, rfl⟩
          go_wp2_with fail
          obtain ⟨W2, hW2, hb2, hc⟩ := box1 W 127 #[.int .i64 x, .int .i64 y]
          rw [hW2]
          clear hW2 q0 q1
          have hB2 := below_then hb hb2
          clear hb hb2 hx
          refine wp_region_class 14 (fun wz => Below W2.heap.size W2 wz) mixes (by kernel_rfl) (Below.refl _ _).drew ?_
          simp only [List.take_succ_cons, List.take_zero, List.drop_succ_cons, List.drop_zero]
          repeat (refine cls_step rfl (fun K hK => ⟨_, (fun w' hw => by have q0 := (hc.on hw hc.lt).cell 0; have q1 := (hc.on hw hc.lt).cell 1; go_simp; exact rfl), ?_⟩); go_simp; refine hK _ ?_; clear hK K)
          refine cls_call rfl (fun K hK => ⟨_, _, _, (fun w' => by go_simp <;> first | exact rfl | exact ⟨rfl, rfl⟩), (fun w' hw => calls_same hw (HM'.out _)), ?_⟩); go_simp; refine hK _ ?_; clear hK K
          repeat (refine cls_step rfl (fun K hK => ⟨_, (fun w' hw => by have q0 := (hc.on hw hc.lt).cell 0; have q1 := (hc.on hw hc.lt).cell 1; go_simp; exact rfl), ?_⟩); go_simp; refine hK _ ?_; clear hK K)
          refine cls_call rfl (fun K hK => ⟨_, _, _, (fun w' => by go_simp <;> first | exact rfl | exact ⟨rfl, rfl⟩), (fun w' hw => calls_same hw (HR'.out _)), ?_⟩); go_simp; refine hK _ ?_; clear hK K
          refine wq_nil ?_
          intro w' hw
          have hB3 := below_then hB2 hw
          clear hc hB2 hw
          go_wp2
          go_ret2
          exact ⟨_, rfl, (fun h => by cases h), hB3⟩
  · simp only [if_true]
    by_cases h0 : x = 0
    · subst h0
      rw [show ((0 : Int) == 0 && y == 0) = (y == 0) from rfl]
      go_enter Try.func55, Try.ntmps55
      go_wp2_with fail
      obtain ⟨W, hW, hb, hx⟩ := box1 w 35 #[.int .i64 0, .int .i64 y, .bool true]
      rw [hW]
      clear hW
      refine wp_region_class 9 (fun wz => Below W.heap.size W wz) mixes (by kernel_rfl) (Below.refl _ _).drew ?_
      simp only [List.take_succ_cons, List.take_zero, List.drop_succ_cons, List.drop_zero]
      repeat (refine cls_stepG rfl (fun K hK => ⟨_, (fun w' hw => by have q0 := (hx.on hw hx.lt).cell 0; have q1 := (hx.on hw hx.lt).cell 1; go_simp; exact rfl), ?_⟩); go_simp; refine hK _ ?_; clear hK K)
      refine wq_nil ?_
      intro w' hw
      have hB1 := below_then hb hw
      clear hb hx hw
      go_wp2
      go_ret2
      exact ⟨_, rfl, fun h => .inl ⟨rfl, by simp at h; rw [h]; rfl⟩, hB1⟩
    · have h0' : (x == 0) = false := by simp [h0]
      rw [h0', Bool.false_and]
      go_enter Try.func55, Try.ntmps55
      go_wp2_with fail
      obtain ⟨W, hW, hb, hx⟩ := box1 w 35 #[.int .i64 x, .int .i64 y, .bool true]
      rw [hW]
      clear hW
      refine wp_region_class 9 (fun wz => Below W.heap.size W wz) mixes (by kernel_rfl) (Below.refl _ _).drew ?_
      simp only [List.take_succ_cons, List.take_zero, List.drop_succ_cons, List.drop_zero]
      iterate 4 (refine cls_stepG rfl (fun K hK => ⟨_, (fun w' hw => by have q0 := (hx.on hw hx.lt).cell 0; have q1 := (hx.on hw hx.lt).cell 1; go_simp; exact rfl), ?_⟩); go_simp; refine hK _ ?_; clear hK K)
      iterate 3 (refine cls_skip rfl (fun K hK => ?_); go_simp; refine hK _ ?_; clear hK K)
      repeat (refine cls_stepG rfl (fun K hK => ⟨_, (fun w' hw => by have q0 := (hx.on hw hx.lt).cell 0; have q1 := (hx.on hw hx.lt).cell 1; go_simp; exact rfl), ?_⟩); go_simp; refine hK _ ?_; clear hK K)
      refine wq_nil ?_
      intro w' hw
      have hB1 := below_then hb hw
      clear hb hx hw
      go_wp2
      go_ret2
      exact ⟨_, rfl, (fun h => by cases h), hB1⟩

end Go.Proofs.Ytbkfdafdchjakaa

/-
  The walks of the program's places on the curve: so often, and their texts.
  (-DROP-: what the seat lacks is left out.)
-/
namespace Go.Proofs.Ytbkfdafdchjakaa
open Go.RowKit

/-- A point so often, the sign taken ahead. -/
def pTim (k : Int) (P : Pt) : Pt := if Int.tmod k 12108 < 0 then pMul (pNeg P) (Int.tmod k 12108).natAbs else pMul P (Int.tmod k 12108).natAbs
theorem ptimes_tim {k : Int} {P : Pt} (h : pOkB P = true) : pTimes k P = pTim k P := by
  unfold pTimes pTim
  rw [if_pos h]
theorem tmod_12108 (k : Int) : -12108 < Int.tmod k 12108 ∧ Int.tmod k 12108 < 12108 := by
  have h1 := Int.tmod_lt_of_pos k (show (0 : Int) < 12108 by decide)
  have h2 := Int.lt_tmod_of_pos k (show (0 : Int) < 12108 by decide)
  omega

set_option maxHeartbeats 1600000 in
set_option maxRecDepth 100000 in
theorem timesC_any (v : Value) (P : Pt) (k : Int) (w : World) (hp : PAt w v P) (hP : POk P) :
    Calls Try.prog 56 #[v, .int .i64 k] w fun e w' => ∃ v', e = .returned v' ∧ PAt w' v' (pTim k P) ∧ Below w.heap.size w w' := by
  obtain ⟨n, hn⟩ : ∃ n, n = Int.tmod k 12108 := ⟨_, rfl⟩
  have hnb : -12108 < n ∧ n < 12108 := by rw [hn]; exact tmod_12108 k
  have HV : Hid (pTim k P = if n < 0 then pMul (pNeg P) n.natAbs else pMul P n.natAbs) := by rw [hn]; rfl
  have hk : Int.tmod k 12108 = n := hn.symm
  clear hn
  by_cases h1 : n < 0
  · obtain ⟨M, hMn⟩ : ∃ M : Nat, M = n.natAbs := ⟨_, rfl⟩
    have hMi : -n = (M : Int) := by omega
    have hM : M < 12108 := by omega
    have HT : Hid (pTim k P = pMul (pNeg P) M) := by rw [HV.out, if_pos h1, hMn]; rfl
    have HO : Hid (Calls Try.prog 81 #[v] w fun e w' => ∃ v', e = .returned v' ∧ PAt w' v' (pNeg P) ∧ Below w.heap.size w w') := opposite_any v P w hp hP
    have HB : Hid (POk (pNeg P)) := pneg_ok hP
    clear hMn HV hp hP
    generalize pTim k P = T at HT ⊢
    generalize pNeg P = B0 at HO HB HT
    go_enter Try.func56, Try.ntmps56
    go_wp2_with fail
    refine HO.out.mono ?_
    rintro e w1 ⟨v1, rfl, hv1, hb1⟩
    have HD0 : Hid (PAt w1 v1 B0 ∧ PAt w1 (.pointer none) pZ ∧ Below w.heap.size w w1) := ⟨hv1, pat_zero _, hb1⟩
    have HX0 : Hid (POk B0 ∧ POk pZ ∧ pAdd pZ (pMul B0 M) = T) := ⟨HB.out, pz_ok, by rw [HT.out]; rfl⟩
    clear hv1 hb1 HO HB HT
    go_wp2
    go_loopw [0, 1, 5] (fun p i s wr => ∃ (a d : Value) (m : Nat) (B R : Pt), a = p ∧ i = .int .i64 (m : Int) ∧ d = s ∧ m < 12108 ∧ Hid (POk B ∧ POk R ∧ pAdd R (pMul B m) = T) ∧ Hid (PAt wr a B ∧ PAt wr d R ∧ Below w.heap.size w wr)) (fun _ i _ _ => (intOf i).toNat)
    case atStart => exact ⟨_, _, M, B0, pZ, rfl, rfl, rfl, hM, HX0, HD0⟩
    case round =>
      obtain ⟨a, d, m, B, R, rfl, rfl, rfl, hm, HX, HD⟩ := hrel
      clear HX0 HD0
      by_cases h0 : 0 < m
      · have h0' : (0 : Int) < (m : Int) := by omega
        have hq : Int.tdiv (m : Int) 2 = ((m / 2 : Nat) : Int) := by rw [Int.tdiv_eq_ediv_of_nonneg (by omega)]; omega
        have hqb : m / 2 < m := by omega
        have HBB : Hid (∀ wx, PAt wx a B → Calls Try.prog 82 #[a, a] wx fun e w' => ∃ v', e = .returned v' ∧ PAt w' v' (pAdd B B) ∧ Below wx.heap.size wx w') := fun wx h => plusC_any _ _ _ _ wx h h HX.out.1 HX.out.1
        have HRB : Hid (∀ wx, PAt wx d R → PAt wx a B → Calls Try.prog 82 #[d, a] wx fun e w' => ∃ v', e = .returned v' ∧ PAt w' v' (pAdd R B) ∧ Below wx.heap.size wx w') := fun wx h h' => plusC_any _ _ _ _ wx h h' HX.out.2.1 HX.out.1
        by_cases h2 : m % 2 = 1
        · have h2' : Int.tmod (m : Int) 2 = 1 := by rw [Int.tmod_eq_emod_of_nonneg (by omega)]; omega
          have HN : Hid (POk (pAdd B B) ∧ POk (pAdd R B) ∧ pAdd (pAdd R B) (pMul (pAdd B B) (m / 2)) = T) := ⟨padd_ok HX.out.1 HX.out.1, padd_ok HX.out.2.1 HX.out.1, (dbl_odd HX.out.2.1 HX.out.1 h2).trans HX.out.2.2⟩
          generalize pAdd B B = B2 at HBB HN
          generalize pAdd R B = R2 at HRB HN
          generalize m / 2 = m2 at HN hq hqb
          clear h2 HX
          go_wp2_with fail
          refine (HRB.out _ HD.out.2.1 HD.out.1).mono ?_
          rintro e w5 ⟨s2, rfl, hs2, hb5⟩
          have hp5 := HD.out.1.on hb5
          have hB5 := below_then HD.out.2.2 hb5
          clear HD hb5 HRB
          go_wp2_with fail
          refine (HBB.out _ hp5).mono ?_
          rintro e w6 ⟨p2, rfl, hp2, hb6⟩
          have HD2 : Hid (PAt w6 p2 B2 ∧ PAt w6 s2 R2 ∧ Below w.heap.size w w6) := ⟨hp2, hs2.on hb6, below_then hB5 hb6⟩
          clear hp2 hs2 hB5 hb6 hp5 HBB
          go_wp2
          go_roundw
          case rel => exact ⟨_, _, m2, B2, R2, rfl, by go_num, rfl, by omega, HN, HD2⟩
          case measure => simp [intOf]; omega
        · have h2' : Int.tmod (m : Int) 2 = 0 := by rw [Int.tmod_eq_emod_of_nonneg (by omega)]; omega
          have HN : Hid (POk (pAdd B B) ∧ POk R ∧ pAdd R (pMul (pAdd B B) (m / 2)) = T) := ⟨padd_ok HX.out.1 HX.out.1, HX.out.2.1, (dbl_even HX.out.1 (by omega)).trans HX.out.2.2⟩
          generalize pAdd B B = B2 at HBB HN
          generalize m / 2 = m2 at HN hq hqb
          clear h2 HX HRB
          go_wp2_with fail
          refine (HBB.out _ HD.out.1).mono ?_
          rintro e w6 ⟨p2, rfl, hp2, hb6⟩
          have HD2 : Hid (PAt w6 p2 B2 ∧ PAt w6 d R ∧ Below w.heap.size w w6) := ⟨hp2, HD.out.2.1.on hb6, below_then HD.out.2.2 hb6⟩
          clear hp2 hb6 HD HBB
          go_wp2
          go_roundw
          case rel => exact ⟨_, _, m2, B2, R, rfl, by go_num, rfl, by omega, HN, HD2⟩
          case measure => simp [intOf]; omega
      · have h0' : ¬ (0 : Int) < (m : Int) := by omega
        obtain rfl : m = 0 := by omega
        have HE : Hid (R = T) := by have := HX.out.2.2; rwa [show pMul B 0 = pZ from rfl, padd_zero HX.out.2.1] at this
        clear HX
        go_wp2
        go_ret
        exact ⟨_, rfl, by rw [← HE.out]; exact HD.out.2.1, HD.out.2.2⟩
  · obtain ⟨M, hMn⟩ : ∃ M : Nat, M = n.natAbs := ⟨_, rfl⟩
    have hMi : n = (M : Int) := by omega
    have hM : M < 12108 := by omega
    have HX0 : Hid (POk P ∧ POk pZ ∧ pAdd pZ (pMul P M) = pTim k P) := ⟨hP, pz_ok, by rw [HV.out, if_neg h1, hMn]; rfl⟩
    have HD0 : Hid (PAt w v P ∧ PAt w (.pointer none) pZ ∧ Below w.heap.size w w) := ⟨hp, pat_zero _, Below.refl _ _⟩
    obtain ⟨B0, hB0⟩ : ∃ B0 : Pt, B0 = P := ⟨_, rfl⟩
    generalize pTim k P = T at HX0 ⊢
    rw [← hB0] at HX0 HD0
    clear hMn HV hp hP hB0
    go_enter Try.func56, Try.ntmps56
    go_wp2
    go_loopw [0, 1, 5] (fun p i s wr => ∃ (a d : Value) (m : Nat) (B R : Pt), a = p ∧ i = .int .i64 (m : Int) ∧ d = s ∧ m < 12108 ∧ Hid (POk B ∧ POk R ∧ pAdd R (pMul B m) = T) ∧ Hid (PAt wr a B ∧ PAt wr d R ∧ Below w.heap.size w wr)) (fun _ i _ _ => (intOf i).toNat)
    case atStart => exact ⟨_, _, M, B0, pZ, rfl, rfl, rfl, hM, HX0, HD0⟩
    case round =>
      obtain ⟨a, d, m, B, R, rfl, rfl, rfl, hm, HX, HD⟩ := hrel
      clear HX0 HD0
      by_cases h0 : 0 < m
      · have h0' : (0 : Int) < (m : Int) := by omega
        have hq : Int.tdiv (m : Int) 2 = ((m / 2 : Nat) : Int) := by rw [Int.tdiv_eq_ediv_of_nonneg (by omega)]; omega
        have hqb : m / 2 < m := by omega
        have HBB : Hid (∀ wx, PAt wx a B → Calls Try.prog 82 #[a, a] wx fun e w' => ∃ v', e = .returned v' ∧ PAt w' v' (pAdd B B) ∧ Below wx.heap.size wx w') := fun wx h => plusC_any _ _ _ _ wx h h HX.out.1 HX.out.1
        have HRB : Hid (∀ wx, PAt wx d R → PAt wx a B → Calls Try.prog 82 #[d, a] wx fun e w' => ∃ v', e = .returned v' ∧ PAt w' v' (pAdd R B) ∧ Below wx.heap.size wx w') := fun wx h h' => plusC_any _ _ _ _ wx h h' HX.out.2.1 HX.out.1
        by_cases h2 : m % 2 = 1
        · have h2' : Int.tmod (m : Int) 2 = 1 := by rw [Int.tmod_eq_emod_of_nonneg (by omega)]; omega
          have HN : Hid (POk (pAdd B B) ∧ POk (pAdd R B) ∧ pAdd (pAdd R B) (pMul (pAdd B B) (m / 2)) = T) := ⟨padd_ok HX.out.1 HX.out.1, padd_ok HX.out.2.1 HX.out.1, (dbl_odd HX.out.2.1 HX.out.1 h2).trans HX.out.2.2⟩
          generalize pAdd B B = B2 at HBB HN
          generalize pAdd R B = R2 at HRB HN
          generalize m / 2 = m2 at HN hq hqb
          clear h2 HX
          go_wp2_with fail
          refine (HRB.out _ HD.out.2.1 HD.out.1).mono ?_
          rintro e w5 ⟨s2, rfl, hs2, hb5⟩
          have hp5 := HD.out.1.on hb5
          have hB5 := below_then HD.out.2.2 hb5
          clear HD hb5 HRB
          go_wp2_with fail
          refine (HBB.out _ hp5).mono ?_
          rintro e w6 ⟨p2, rfl, hp2, hb6⟩
          have HD2 : Hid (PAt w6 p2 B2 ∧ PAt w6 s2 R2 ∧ Below w.heap.size w w6) := ⟨hp2, hs2.on hb6, below_then hB5 hb6⟩
          clear hp2 hs2 hB5 hb6 hp5 HBB
          go_wp2
          go_roundw
          case rel => exact ⟨_, _, m2, B2, R2, rfl, by go_num, rfl, by omega, HN, HD2⟩
          case measure => simp [intOf]; omega
        · have h2' : Int.tmod (m : Int) 2 = 0 := by rw [Int.tmod_eq_emod_of_nonneg (by omega)]; omega
          have HN : Hid (POk (pAdd B B) ∧ POk R ∧ pAdd R (pMul (pAdd B B) (m / 2)) = T) := ⟨padd_ok HX.out.1 HX.out.1, HX.out.2.1, (dbl_even HX.out.1 (by omega)).trans HX.out.2.2⟩
          generalize pAdd B B = B2 at HBB HN
          generalize m / 2 = m2 at HN hq hqb
          clear h2 HX HRB
          go_wp2_with fail
          refine (HBB.out _ HD.out.1).mono ?_
          rintro e w6 ⟨p2, rfl, hp2, hb6⟩
          have HD2 : Hid (PAt w6 p2 B2 ∧ PAt w6 d R ∧ Below w.heap.size w w6) := ⟨hp2, HD.out.2.1.on hb6, below_then HD.out.2.2 hb6⟩
          clear hp2 hb6 HD HBB
          go_wp2
          go_roundw
          case rel => exact ⟨_, _, m2, B2, R, rfl, by go_num, rfl, by omega, HN, HD2⟩
          case measure => simp [intOf]; omega
      · have h0' : ¬ (0 : Int) < (m : Int) := by omega
        obtain rfl : m = 0 := by omega
        have HE : Hid (R = T) := by have := HX.out.2.2; rwa [show pMul B 0 = pZ from rfl, padd_zero HX.out.2.1] at this
        clear HX
        go_wp2
        go_ret
        exact ⟨_, rfl, by rw [← HE.out]; exact HD.out.2.1, HD.out.2.2⟩

end Go.Proofs.Ytbkfdafdchjakaa

/-
  The walk of the text of a place on the curve.
  (-DROP-: what the seat lacks is left out.)
-/
namespace Go.Proofs.Ytbkfdafdchjakaa
open Go.RowKit

theorem make3 (w : World) : (Instr.makeSlice 22 (.int .i64 3) (.int .i64 3)).run Try.prog w = .ok (.slice (some ⟨w.heap.size, 0, none⟩) 3 3) (w.alloc (.cells #[.int .u8 0, .int .u8 0, .int .u8 0] 5)) := by
  kernel_rfl

end Go.Proofs.Ytbkfdafdchjakaa

/-
  The walks of the program's points.
  (-DROP-: what the seat lacks is left out.)
-/
namespace Go.Proofs.Ytbkfdafdchjakaa
open Go.RowKit

set_option maxRecDepth 100000 in
theorem iBase_any (w : World) :
    Calls Try.prog 25 #[] w fun e w' => e = .returned (pv pB) ∧ Below w.heap.size w w' := by
  go_enter Try.func25, Try.ntmps25
  go_wp2
  refine bodyPost_ret_by (result_blk rfl rfl (Blk.newAt (by simp)) Try.underlying35 infoP) rfl ⟨rfl, (Below.refl _ _).alloc (Nat.le_refl _) _⟩

set_option maxHeartbeats 1600000 in
set_option maxRecDepth 100000 in
theorem iPAdd_any (P Q : Pt) (w : World) :
    Calls Try.prog 92 #[pv P, pv Q] w fun e w' => e = .returned (pv (pSum P Q)) ∧ Below w.heap.size w w' := by
  have HP : Hid (∀ w, Calls Try.prog 55 #[pv P] w fun e w' => ∃ v', e = .returned (.tuple #[v', .bool (pOkB P)]) ∧ (pOkB P = true → PAt w' v' P) ∧ Below w.heap.size w w') := placeOf_any P
  have HQ : Hid (∀ w, Calls Try.prog 55 #[pv Q] w fun e w' => ∃ v', e = .returned (.tuple #[v', .bool (pOkB Q)]) ∧ (pOkB Q = true → PAt w' v' Q) ∧ Below w.heap.size w w') := placeOf_any Q
  have HS : Hid (pOkB P = true → pOkB Q = true → ∀ w v u, PAt w v P → PAt w u Q → Calls Try.prog 82 #[v, u] w fun e w' => ∃ v', e = .returned v' ∧ PAt w' v' (pAdd P Q) ∧ Below w.heap.size w w') := fun h1 h2 w v u h3 h4 => plusC_any v u P Q w h3 h4 (pokB.1 h1) (pokB.1 h2)
  have HG : Hid (∀ w v, PAt w v (pAdd P Q) → Calls Try.prog 57 #[v] w fun e w' => e = .returned (pv (pAdd P Q)) ∧ Below w.heap.size w w') := fun w v h => point_any v _ w h
  unfold pSum
  generalize pOkB P = a at HP HS ⊢
  generalize pOkB Q = b at HQ HS ⊢
  generalize pAdd P Q = S at HS HG ⊢
  obtain ⟨x, y, z⟩ := P
  obtain ⟨u, v, t⟩ := Q
  unfold pv at HP HQ HG ⊢
  simp only at HP HQ HG ⊢
  go_enter Try.func92, Try.ntmps92
  go_wp2_with fail
  obtain ⟨W, hW, hb, hx, hy, hr⟩ := boxes2r w 35 35 35 #[.int .i64 x, .int .i64 y, .bool z] #[.int .i64 u, .int .i64 v, .bool t] #[.int .i64 0, .int .i64 0, .bool false]
  rw [hW]
  clear hW
  refine (HP.out _).mono ?_
  rintro e w1 ⟨v1, rfl, hv1, hb1⟩
  have H1 : Hid (a = true → PAt w1 v1 (x, y, z)) := hv1
  have hy1 := hy.on hb1 hy.lt
  have hr1 := hr.on hb1 hr.lt
  have hB1 := below_then hb hb1
  clear hx hy hr hb hb1 hv1 HP
  go_wp2_with (refine load_blk rfl rfl rfl hy1 Try.underlying35 infoP ?_)
  refine (HQ.out _).mono ?_
  rintro e w2 ⟨v2, rfl, hv2, hb2⟩
  have H1' : Hid (a = true → PAt w2 v1 (x, y, z)) := fun h => (H1.out h).on hb2
  have H2 : Hid (b = true → PAt w2 v2 (u, v, t)) := hv2
  have hr2 := hr1.on hb2 hr1.lt
  have hB2 := below_then hB1 hb2
  clear hy1 hr1 hB1 hb2 hv2 HQ H1
  cases a
  · go_wp2_with (refine store_blk (cs' := pc pZ) rfl rfl rfl rfl rfl hr2 infoP rfl (ones3 _ _ _) ?_; intro V h5 hoth hbel; have hbV := hbel _ _ (by omega) hB2; clear hoth hbel)
    refine bodyPost_ret_by (result_blk rfl rfl h5 Try.underlying35 infoP) rfl ⟨rfl, hbV⟩
  · cases b
    · go_wp2_with (refine store_blk (cs' := pc pZ) rfl rfl rfl rfl rfl hr2 infoP rfl (ones3 _ _ _) ?_; intro V h5 hoth hbel; have hbV := hbel _ _ (by omega) hB2; clear hoth hbel)
      refine bodyPost_ret_by (result_blk rfl rfl h5 Try.underlying35 infoP) rfl ⟨rfl, hbV⟩
    · go_wp2_with fail
      refine (HS.out (by trivial) (by trivial) _ _ _ (H1'.out (by trivial)) (H2.out (by trivial))).mono ?_
      rintro e w3 ⟨v3, rfl, hv3, hb3⟩
      have hr3 := hr2.on hb3 hr2.lt
      have hB3 := below_then hB2 hb3
      clear hr2 hB2 hb3 H1' H2 HS
      go_wp2_with fail
      refine (HG.out _ _ hv3).mono ?_
      rintro e w4 ⟨rfl, hb4⟩
      have hr4 := hr3.on hb4 hr3.lt
      have hB4 := below_then hB3 hb4
      clear hr3 hB3 hb4 hv3 HG
      go_wp2_with (refine store_blk (cs' := pc S) rfl rfl rfl rfl rfl hr4 infoP rfl (ones3 _ _ _) ?_; intro V h5 hoth hbel; have hbV := hbel _ _ (by omega) hB4; clear hoth hbel)
      refine bodyPost_ret_by (result_blk rfl rfl h5 Try.underlying35 infoP) rfl ⟨rfl, hbV⟩

set_option maxHeartbeats 1600000 in
set_option maxRecDepth 100000 in
theorem iTimes_any (k : Int) (P : Pt) (w : World) :
    Calls Try.prog 24 #[.int .i64 k, pv P] w fun e w' => e = .returned (pv (pTimes k P)) ∧ Below w.heap.size w w' := by
  have HP : Hid (∀ w, Calls Try.prog 55 #[pv P] w fun e w' => ∃ v', e = .returned (.tuple #[v', .bool (pOkB P)]) ∧ (pOkB P = true → PAt w' v' P) ∧ Below w.heap.size w w') := placeOf_any P
  have HS : Hid (pOkB P = true → ∀ w v, PAt w v P → Calls Try.prog 56 #[v, .int .i64 k] w fun e w' => ∃ v', e = .returned v' ∧ PAt w' v' (pTim k P) ∧ Below w.heap.size w w') := fun h1 w v h3 => timesC_any v P k w h3 (pokB.1 h1)
  have HG : Hid (∀ w v, PAt w v (pTim k P) → Calls Try.prog 57 #[v] w fun e w' => e = .returned (pv (pTim k P)) ∧ Below w.heap.size w w') := fun w v h => point_any v _ w h
  rw [show pTimes k P = if pOkB P = true then pTim k P else pZ from rfl]
  generalize pOkB P = a at HP HS ⊢
  generalize pTim k P = S at HS HG ⊢
  obtain ⟨x, y, z⟩ := P
  unfold pv at HP HG ⊢
  simp only at HP HG ⊢
  go_enter Try.func24, Try.ntmps24
  go_wp2_with fail
  obtain ⟨W, hW, hb, hx, hr⟩ := boxes1r w 35 35 #[.int .i64 x, .int .i64 y, .bool z] #[.int .i64 0, .int .i64 0, .bool false]
  rw [hW]
  clear hW
  refine (HP.out _).mono ?_
  rintro e w1 ⟨v1, rfl, hv1, hb1⟩
  have H1 : Hid (a = true → PAt w1 v1 (x, y, z)) := hv1
  have hr1 := hr.on hb1 hr.lt
  have hB1 := below_then hb hb1
  clear hx hr hb hb1 hv1 HP
  cases a
  · go_wp2_with (refine store_blk (cs' := pc pZ) rfl rfl rfl rfl rfl hr1 infoP rfl (ones3 _ _ _) ?_; intro V h5 hoth hbel; have hbV := hbel _ _ (by omega) hB1; clear hoth hbel)
    refine bodyPost_ret_by (result_blk rfl rfl h5 Try.underlying35 infoP) rfl ⟨rfl, hbV⟩
  · go_wp2_with fail
    refine (HS.out (by trivial) _ _ (H1.out (by trivial))).mono ?_
    rintro e w3 ⟨v3, rfl, hv3, hb3⟩
    have hr3 := hr1.on hb3 hr1.lt
    have hB3 := below_then hB1 hb3
    clear hr1 hB1 hb3 H1 HS
    go_wp2_with fail
    refine (HG.out _ _ hv3).mono ?_
    rintro e w4 ⟨rfl, hb4⟩
    have hr4 := hr3.on hb4 hr3.lt
    have hB4 := below_then hB3 hb4
    clear hr3 hB3 hb4 hv3 HG
    go_wp2_with (refine store_blk (cs' := pc S) rfl rfl rfl rfl rfl hr4 infoP rfl (ones3 _ _ _) ?_; intro V h5 hoth hbel; have hbV := hbel _ _ (by omega) hB4; clear hoth hbel)
    refine bodyPost_ret_by (result_blk rfl rfl h5 Try.underlying35 infoP) rfl ⟨rfl, hbV⟩

set_option maxHeartbeats 1600000 in
set_option maxRecDepth 100000 in
theorem iInG_any (P : Pt) (w : World) :
    Calls Try.prog 60 #[pv P] w fun e w' => e = .returned (.bool (inGB P)) ∧ Below w.heap.size w w' := by
  have HP : Hid (∀ w, Calls Try.prog 55 #[pv P] w fun e w' => ∃ v', e = .returned (.tuple #[v', .bool (pOkB P)]) ∧ (pOkB P = true → PAt w' v' P) ∧ Below w.heap.size w w') := placeOf_any P
  have HS : Hid (pOkB P = true → ∀ w v, PAt w v P → Calls Try.prog 56 #[v, .int .i64 1009] w fun e w' => ∃ v', e = .returned v' ∧ PAt w' v' (pTim 1009 P) ∧ Below w.heap.size w w') := fun h1 w v h3 => timesC_any v P 1009 w h3 (pokB.1 h1)
  rw [show inGB P = (pOkB P && (if pOkB P = true then pTim 1009 P else pZ).2.2) from rfl]
  generalize pOkB P = a at HP HS ⊢
  generalize pTim 1009 P = S at HS ⊢
  obtain ⟨x, y, z⟩ := P
  unfold pv at HP ⊢
  simp only at HP ⊢
  go_enter Try.func60, Try.ntmps60
  go_wp2_with fail
  obtain ⟨W, hW, hb, hx⟩ := box1 w 35 #[.int .i64 x, .int .i64 y, .bool z]
  rw [hW]
  clear hW
  refine (HP.out _).mono ?_
  rintro e w1 ⟨v1, rfl, hv1, hb1⟩
  have H1 : Hid (a = true → PAt w1 v1 (x, y, z)) := hv1
  have hB1 := below_then hb hb1
  clear hx hb hb1 hv1 HP
  cases a
  · go_wp2
    go_ret
    exact ⟨rfl, hB1⟩
  · go_wp2_with fail
    refine (HS.out (by trivial) _ _ (H1.out (by trivial))).mono ?_
    rintro e w3 ⟨v3, rfl, hv3, hb3⟩
    have hB3 := below_then hB1 hb3
    clear hB1 hb3 H1 HS
    rcases hv3 with ⟨rfl, rfl⟩ | ⟨b, p, q, rfl, rfl, _⟩
    · go_wp2
      go_ret
      exact ⟨rfl, hB3⟩
    · go_wp2
      go_ret
      exact ⟨rfl, hB3⟩

end Go.Proofs.Ytbkfdafdchjakaa
