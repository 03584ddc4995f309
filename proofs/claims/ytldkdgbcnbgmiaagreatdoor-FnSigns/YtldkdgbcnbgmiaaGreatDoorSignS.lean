/-
  The walks of the specification's signatures.
  (-DROP-: what the seat lacks is left out.)
-/
import Derived.Test.YtldkdgbcnbgmiaaGreatDoorJoined33
import Derived.Test.YtldkdgbcnbgmiaaGreatDoorJoined33
import Derived.Test.YtldkdgbcnbgmiaaGreatDoorJoined36
namespace Go.Proofs.YtldkdgbcnbgmiaaGreatDoor
open Go.RowKit

set_option maxHeartbeats 800000 in
set_option maxRecDepth 100000 in
theorem sKey_any (k : Int) (w : World) :
    Calls Tryz.prog 31 #[.int .i64 k] w fun e w' => e = .returned (pv (keyP k)) ∧ Below w.heap.size w w' := by
  have HO : Hid (∀ w, Calls Tryz.prog 9 #[.int .i64 k] w fun e w' => e = .returned (.int .i64 (sca k)) ∧ w = w') := sScOf_any k
  have HT : Hid (∀ w, Calls Tryz.prog 42 #[.int .i64 (sca k), pv pB] w fun e w' => e = .returned (pv (keyP k)) ∧ Below w.heap.size w w') := sTimes_any (sca k) pB
  have HB : Hid (∀ w, Calls Tryz.prog 43 #[] w fun e w' => e = .returned (pv pB) ∧ Below w.heap.size w w') := sBase_any
  generalize keyP k = K at HT ⊢
  generalize sca k = s at HO HT
  generalize pB = B at HT HB
  go_enter Tryz.func31, Tryz.ntmps31
  go_wp2_with fail
  obtain ⟨W, hW, hb, hr⟩ := box1 w 27 #[.int .i64 0, .int .i64 0, .bool false]
  rw [hW]
  clear hW
  refine (HO.out _).mono ?_
  rintro e w1 ⟨rfl, rfl⟩
  go_wp2_with fail
  refine (HB.out _).mono ?_
  rintro e w2 ⟨rfl, hb2⟩
  go_wp2_with fail
  refine (HT.out _).mono ?_
  rintro e w3 ⟨rfl, hb3⟩
  have hr3 := (hr.on hb2 hr.lt).on hb3 (by have := hb2.size; have := hr.lt; omega)
  have hB3 := below_then (below_then hb hb2) hb3
  clear hb hb2 hb3 hr
  go_wp2_with (refine store_blk (cs' := pc K) rfl rfl rfl rfl rfl hr3 infoP rfl (ones3 _ _ _) ?_; intro V h5 hoth hbel; have hbV := hbel _ _ (by omega) hB3; clear hoth hbel)
  refine bodyPost_ret_by (result_blk rfl rfl h5 Tryz.underlying27 infoP) rfl ⟨rfl, hbV⟩

set_option maxHeartbeats 800000 in
set_option maxRecDepth 100000 in
theorem sSign_any (k : Int) (t : ByteArray) (ht : t.size ≤ 1048576) (w : World) :
    Calls Tryz.prog 32 #[.int .i64 k, .string t] w fun e w' => e = .returned (pv (signP k (hashPt t))) ∧ Below w.heap.size w w' := by
  obtain ⟨H, hH⟩ : ∃ H, H = hashPt t := ⟨_, rfl⟩
  have HB : Hid (∀ w, Calls Tryz.prog 16 #[.string t] w fun e w' => e = .returned (pv H) ∧ Below w.heap.size w w') := by rw [hH]; exact sHash_any t ht
  rw [← hH]
  clear hH
  have HO : Hid (∀ w, Calls Tryz.prog 9 #[.int .i64 k] w fun e w' => e = .returned (.int .i64 (sca k)) ∧ w = w') := sScOf_any k
  have HT : Hid (∀ w, Calls Tryz.prog 42 #[.int .i64 (sca k), pv H] w fun e w' => e = .returned (pv (signP k H)) ∧ Below w.heap.size w w') := sTimes_any (sca k) H
  generalize signP k H = K at HT ⊢
  generalize sca k = s at HO HT
  go_enter Tryz.func32, Tryz.ntmps32
  go_wp2_with fail
  obtain ⟨W, hW, hb, hr⟩ := box1 w 27 #[.int .i64 0, .int .i64 0, .bool false]
  rw [hW]
  clear hW
  refine (HO.out _).mono ?_
  rintro e w1 ⟨rfl, rfl⟩
  go_wp2_with fail
  refine (HB.out _).mono ?_
  rintro e w2 ⟨rfl, hb2⟩
  go_wp2_with fail
  refine (HT.out _).mono ?_
  rintro e w3 ⟨rfl, hb3⟩
  have hr3 := (hr.on hb2 hr.lt).on hb3 (by have := hb2.size; have := hr.lt; omega)
  have hB3 := below_then (below_then hb hb2) hb3
  clear hb hb2 hb3 hr
  go_wp2_with (refine store_blk (cs' := pc K) rfl rfl rfl rfl rfl hr3 infoP rfl (ones3 _ _ _) ?_; intro V h5 hoth hbel; have hbV := hbel _ _ (by omega) hB3; clear hoth hbel)
  refine bodyPost_ret_by (result_blk rfl rfl h5 Tryz.underlying27 infoP) rfl ⟨rfl, hbV⟩

/-- Two by two that are not the same. -/
theorem two_ne {X Y : Int × Int} (h : X ≠ Y) : (X.1 == Y.1) = false ∨ (X.1 = Y.1 ∧ (X.2 == Y.2) = false) := by
  by_cases h1 : X.1 = Y.1
  · refine .inr ⟨h1, ?_⟩
    rw [beq_eq_false_iff_ne]
    intro h2
    exact h (Prod.ext h1 h2)
  · exact .inl (by rw [beq_eq_false_iff_ne]; exact h1)

set_option maxHeartbeats 1600000 in
set_option maxRecDepth 100000 in
theorem sSigOk_any (K S : Pt) (t : ByteArray) (ht : t.size ≤ 1048576) (w : World) :
    Calls Tryz.prog 17 #[pv K, .string t, pv S] w fun e w' => e = .returned (.bool (sigB K S (hashPt t))) ∧ Below w.heap.size w w' := by
  obtain ⟨H, hH⟩ : ∃ H, H = hashPt t := ⟨_, rfl⟩
  have HH : Hid (∀ w, Calls Tryz.prog 16 #[.string t] w fun e w' => e = .returned (pv H) ∧ Below w.heap.size w w') := by rw [hH]; exact sHash_any t ht
  rw [← hH]
  clear hH
  have HK : Hid (∀ w, Calls Tryz.prog 44 #[pv K] w fun e w' => e = .returned (.bool (inGB K)) ∧ Below w.heap.size w w') := sInG_any K
  have HS : Hid (∀ w, Calls Tryz.prog 44 #[pv S] w fun e w' => e = .returned (.bool (inGB S)) ∧ Below w.heap.size w w') := sInG_any S
  have HP1 : Hid (∀ w, Calls Tryz.prog 45 #[pv S, pv pB] w fun e w' => e = .returned (tv (pairS S pB)) ∧ Below w.heap.size w w') := sPairing_any S pB
  have HP2 : Hid (∀ w, Calls Tryz.prog 45 #[pv H, pv K] w fun e w' => e = .returned (tv (pairS H K)) ∧ Below w.heap.size w w') := sPairing_any H K
  have HB : Hid (∀ w, Calls Tryz.prog 43 #[] w fun e w' => e = .returned (pv pB) ∧ Below w.heap.size w w') := sBase_any
  unfold sigB
  generalize inGB K = a at HK ⊢
  generalize inGB S = b at HS ⊢
  generalize pairS S pB = X at HP1 ⊢
  generalize pairS H K = Y at HP2 ⊢
  generalize pB = B at HP1 HB
  obtain ⟨x, y, z⟩ := K
  obtain ⟨u, v, q⟩ := S
  unfold pv at HK HS HH HP1 HP2 HB ⊢
  simp only at HK HS HP1 HP2 ⊢
  cases a
  · rw [if_neg (by simp)]
    go_enter Tryz.func17, Tryz.ntmps17
    go_wp2_with fail
    obtain ⟨W, hW, hb, hx, hy⟩ := boxes1r w 27 27 #[.int .i64 x, .int .i64 y, .bool z] #[.int .i64 u, .int .i64 v, .bool q]
    rw [hW]
    clear hW
    refine (HK.out _).mono ?_
    rintro e w1 ⟨rfl, hb1⟩
    have hB1 := below_then hb hb1
    clear hb hb1 hx hy
    go_wp2
    go_ret
    exact ⟨rfl, hB1⟩
  · cases b
    · rw [if_neg (by simp)]
      go_enter Tryz.func17, Tryz.ntmps17
      go_wp2_with fail
      obtain ⟨W, hW, hb, hx, hy⟩ := boxes1r w 27 27 #[.int .i64 x, .int .i64 y, .bool z] #[.int .i64 u, .int .i64 v, .bool q]
      rw [hW]
      clear hW
      refine (HK.out _).mono ?_
      rintro e w1 ⟨rfl, hb1⟩
      have hB1 := below_then hb hb1
      have hy1 := hy.on hb1 hy.lt
      clear hb hb1 hx hy
      have c0 := hy1.cell 0
      have c1 := hy1.cell 1
      have c2 := hy1.cell 2
      go_wp2_with fail
      refine (HS.out _).mono ?_
      rintro e w2 ⟨rfl, hb2⟩
      have hB2 := below_then hB1 hb2
      clear hB1 hb2 hy1 c0 c1 c2
      go_wp2
      go_ret
      exact ⟨rfl, hB2⟩
    · have HZ : Hid ((z = true ∨ q = true) → (if (true = true ∧ true = true ∧ z = false ∧ q = false) then decide (X = Y) else false) = false) := fun h => by
        rcases h with h | h <;> simp [h]
      have HZ2 : Hid (z = false → q = false → (if (true = true ∧ true = true ∧ z = false ∧ q = false) then decide (X = Y) else false) = decide (X = Y)) := fun h1 h2 => by
        rw [if_pos ⟨rfl, rfl, h1, h2⟩]
      generalize (if (true = true ∧ true = true ∧ z = false ∧ q = false) then decide (X = Y) else false) = RS at HZ HZ2 ⊢
      go_enter Tryz.func17, Tryz.ntmps17
      go_wp2_with fail
      obtain ⟨W, hW, hb, hx, hy⟩ := boxes1r w 27 27 #[.int .i64 x, .int .i64 y, .bool z] #[.int .i64 u, .int .i64 v, .bool q]
      rw [hW]
      clear hW
      refine (HK.out _).mono ?_
      rintro e w1 ⟨rfl, hb1⟩
      have hB1 := below_then hb hb1
      have hx1 := hx.on hb1 hx.lt
      have hy1 := hy.on hb1 hy.lt
      clear hb hb1 hx hy
      have c0 := hy1.cell 0
      have c1 := hy1.cell 1
      have c2 := hy1.cell 2
      go_wp2_with fail
      refine (HS.out _).mono ?_
      rintro e w2 ⟨rfl, hb2⟩
      have hB2 := below_then hB1 hb2
      have hx2 := hx1.on hb2 hx1.lt
      have hy2 := hy1.on hb2 hy1.lt
      have q0 := hx2.cell 2
      have q1 := hy2.cell 2
      clear hB1 hb2 hx1 hy1 c0 c1 c2
      cases z
      · cases q
        · have HR : Hid (RS = decide (X = Y)) := HZ2.out rfl rfl
          clear HZ HZ2
          go_wp2_with fail
          clear q0 q1
          refine wp_region_class 7 (fun wz => Below w2.heap.size w2 wz) mixes (by kernel_rfl) (Below.refl _ _).drew ?_
          simp only [List.take_succ_cons, List.take_zero, List.drop_succ_cons, List.drop_zero]
          repeat (refine cls_step rfl (fun K hK => ⟨_, (fun w' hw => by have q0 := (hx2.on hw hx2.lt).cell 0; have q1 := (hx2.on hw hx2.lt).cell 1; have q2 := (hx2.on hw hx2.lt).cell 2; have q3 := (hy2.on hw hy2.lt).cell 0; have q4 := (hy2.on hw hy2.lt).cell 1; have q5 := (hy2.on hw hy2.lt).cell 2; go_simp; exact rfl), ?_⟩); go_simp; refine hK _ ?_; clear hK K)
          refine cls_call rfl (fun K hK => ⟨_, _, _, (fun w' => by go_simp <;> first | exact rfl | exact ⟨rfl, rfl⟩), (fun w' hw => calls_below hw (HB.out _)), ?_⟩); go_simp; refine hK _ ?_; clear hK K
          refine cls_call rfl (fun K hK => ⟨_, _, _, (fun w' => by go_simp <;> first | exact rfl | exact ⟨rfl, rfl⟩), (fun w' hw => calls_below hw (HP1.out _)), ?_⟩); go_simp; refine hK _ ?_; clear hK K
          repeat (refine cls_step rfl (fun K hK => ⟨_, (fun w' hw => by have q0 := (hx2.on hw hx2.lt).cell 0; have q1 := (hx2.on hw hx2.lt).cell 1; have q2 := (hx2.on hw hx2.lt).cell 2; have q3 := (hy2.on hw hy2.lt).cell 0; have q4 := (hy2.on hw hy2.lt).cell 1; have q5 := (hy2.on hw hy2.lt).cell 2; go_simp; exact rfl), ?_⟩); go_simp; refine hK _ ?_; clear hK K)
          refine cls_call rfl (fun K hK => ⟨_, _, _, (fun w' => by go_simp <;> first | exact rfl | exact ⟨rfl, rfl⟩), (fun w' hw => calls_below hw (HH.out _)), ?_⟩); go_simp; refine hK _ ?_; clear hK K
          repeat (refine cls_step rfl (fun K hK => ⟨_, (fun w' hw => by have q0 := (hx2.on hw hx2.lt).cell 0; have q1 := (hx2.on hw hx2.lt).cell 1; have q2 := (hx2.on hw hx2.lt).cell 2; have q3 := (hy2.on hw hy2.lt).cell 0; have q4 := (hy2.on hw hy2.lt).cell 1; have q5 := (hy2.on hw hy2.lt).cell 2; go_simp; exact rfl), ?_⟩); go_simp; refine hK _ ?_; clear hK K)
          refine cls_call rfl (fun K hK => ⟨_, _, _, (fun w' => by go_simp <;> first | exact rfl | exact ⟨rfl, rfl⟩), (fun w' hw => calls_below hw (HP2.out _)), ?_⟩); go_simp; refine hK _ ?_; clear hK K
          refine wq_nil ?_
          intro w' hw
          have hB3 := below_then hB2 hw
          clear hB2 hw hx2 hy2
          by_cases hXY : X = Y
          · have HR2 : Hid (RS = true) := HR.out.trans (decide_eq_true hXY)
            subst hXY
            clear HR
            go_wp2
            go_ret
            exact ⟨by rw [HR2.out]; rfl, hB3⟩
          · have HR2 : Hid (RS = false) := HR.out.trans (decide_eq_false hXY)
            clear HR
            rcases two_ne hXY with h1 | ⟨h1, h2⟩
            · have h1' : ¬ X.1 = Y.1 := by rw [beq_eq_false_iff_ne] at h1; exact h1
              go_wp2
              go_ret
              exact ⟨by rw [HR2.out]; rfl, hB3⟩
            · have h2' : ¬ X.2 = Y.2 := by rw [beq_eq_false_iff_ne] at h2; exact h2
              go_wp2
              go_ret
              exact ⟨by rw [HR2.out]; rfl, hB3⟩
        · have HR : Hid (RS = false) := HZ.out (.inr rfl)
          clear HZ HZ2
          go_wp2
          go_ret
          exact ⟨by rw [HR.out]; rfl, hB2⟩
      · have HR : Hid (RS = false) := HZ.out (.inl rfl)
        clear HZ HZ2
        go_wp2
        go_ret
        exact ⟨by rw [HR.out]; rfl, hB2⟩

/-- Whether what many signed is right. -/
def allB (f : Nat → Pt) (n : Nat) (S H : Pt) : Bool := decide (0 < n) && sigB (sumN f n) S H

set_option maxHeartbeats 1600000 in
set_option maxRecDepth 100000 in
theorem sAllSig_any (a : Option Addr) (n cp : Nat) (hn : n ≤ 9223372036854775807) (f : Nat → Pt) (t : ByteArray) (ht : t.size ≤ 1048576) (S : Pt) (w : World) (hA : PtsAt w a n w.heap.size f) :
    Calls Tryz.prog 22 #[.slice a n cp, .string t, pv S] w fun e w' => e = .returned (.bool (allB f n S (hashPt t))) ∧ Below w.heap.size w w' := by
  have HA : Hid (PtsAt w a n w.heap.size f) := hA
  clear hA
  obtain ⟨H, hH⟩ : ∃ H, H = hashPt t := ⟨_, rfl⟩
  have HG : Hid (∀ w, Calls Tryz.prog 17 #[pv (sumN f n), .string t, pv S] w fun e w' => e = .returned (.bool (sigB (sumN f n) S H)) ∧ Below w.heap.size w w') := by rw [hH]; exact sSigOk_any (sumN f n) S t ht
  rw [← hH]
  clear hH
  have HS : Hid (∀ w, PtsAt w a n w.heap.size f → Calls Tryz.prog 48 #[.slice a n cp] w fun e w' => e = .returned (pv (sumN f n)) ∧ Below w.heap.size w w') := fun w h => sSumP_any a n cp hn f w h
  unfold allB
  generalize sigB (sumN f n) S H = r at HG ⊢
  generalize sumN f n = K at HG HS
  obtain ⟨x, y, z⟩ := S
  unfold pv at HG HS ⊢
  simp only at HG ⊢
  by_cases h0 : 0 < n
  · rw [decide_eq_true h0, Bool.true_and]
    have h0' : (0 : Int) < (n : Int) := by omega
    go_enter Tryz.func22, Tryz.ntmps22
    go_wp2_with fail
    obtain ⟨W, hW, hb, hx⟩ := box1 w 27 #[.int .i64 x, .int .i64 y, .bool z]
    rw [hW]
    clear hW
    have HA1 : Hid (PtsAt W a n W.heap.size f) := (HA.out.on hb).wide hb.size
    refine wp_region_class 10 (fun wz => Below W.heap.size W wz) mixes (by kernel_rfl) (Below.refl _ _).drew ?_
    simp only [List.take_succ_cons, List.take_zero, List.drop_succ_cons, List.drop_zero]
    iterate 4 (refine cls_step rfl (fun K hK => ⟨_, (fun w' hw => by have q0 := (hx.on hw hx.lt).cell 0; have q1 := (hx.on hw hx.lt).cell 1; have q2 := (hx.on hw hx.lt).cell 2; go_simp; exact rfl), ?_⟩); go_simp; refine hK _ ?_; clear hK K)
    iterate 1 (refine cls_stepG rfl (fun K hK => ⟨_, (fun w' hw => by have q0 := (hx.on hw hx.lt).cell 0; have q1 := (hx.on hw hx.lt).cell 1; have q2 := (hx.on hw hx.lt).cell 2; go_simp; exact rfl), ?_⟩); go_simp; refine hK _ ?_; clear hK K)
    refine cls_callG rfl (fun K hK => ⟨_, _, _, (fun w' => by go_simp <;> first | exact rfl | exact ⟨rfl, rfl⟩), (fun w' hw => calls_below hw (HS.out _ ((HA1.out.on hw).wide hw.size))), ?_⟩); go_simp; refine hK _ ?_; clear hK K
    iterate 2 (refine cls_stepG rfl (fun K hK => ⟨_, (fun w' hw => by have q0 := (hx.on hw hx.lt).cell 0; have q1 := (hx.on hw hx.lt).cell 1; have q2 := (hx.on hw hx.lt).cell 2; go_simp; exact rfl), ?_⟩); go_simp; refine hK _ ?_; clear hK K)
    refine cls_callG rfl (fun K hK => ⟨_, _, _, (fun w' => by go_simp <;> first | exact rfl | exact ⟨rfl, rfl⟩), (fun w' hw => calls_below hw (HG.out _)), ?_⟩); go_simp; refine hK _ ?_; clear hK K
    repeat (refine cls_stepG rfl (fun K hK => ⟨_, (fun w' hw => by go_simp; exact rfl), ?_⟩); go_simp; refine hK _ ?_; clear hK K)
    refine wq_nil ?_
    intro w' hw
    go_wp2
    go_ret
    exact ⟨rfl, below_then hb hw⟩
  · rw [decide_eq_false h0, Bool.false_and]
    have h0' : ¬ (0 : Int) < (n : Int) := by omega
    go_enter Tryz.func22, Tryz.ntmps22
    go_wp2_with fail
    obtain ⟨W, hW, hb, hx⟩ := box1 w 27 #[.int .i64 x, .int .i64 y, .bool z]
    rw [hW]
    clear hW
    refine wp_region_class 10 (fun wz => Below W.heap.size W wz) mixes (by kernel_rfl) (Below.refl _ _).drew ?_
    simp only [List.take_succ_cons, List.take_zero, List.drop_succ_cons, List.drop_zero]
    iterate 4 (refine cls_step rfl (fun K hK => ⟨_, (fun w' hw => by have q0 := (hx.on hw hx.lt).cell 0; have q1 := (hx.on hw hx.lt).cell 1; have q2 := (hx.on hw hx.lt).cell 2; go_simp; exact rfl), ?_⟩); go_simp; refine hK _ ?_; clear hK K)
    iterate 5 (refine cls_skip rfl (fun K hK => ?_); go_simp; refine hK _ ?_; clear hK K)
    repeat (refine cls_stepG rfl (fun K hK => ⟨_, (fun w' hw => by go_simp; exact rfl), ?_⟩); go_simp; refine hK _ ?_; clear hK K)
    refine wq_nil ?_
    intro w' hw
    go_wp2
    go_ret
    exact ⟨rfl, below_then hb hw⟩

end Go.Proofs.YtldkdgbcnbgmiaaGreatDoor
