/-
  The walks of the specification's pairs: Miller's number.
  (-DROP-: what the seat lacks is left out.)
-/
import Derived.Test.YtldkdgbcnbgmiaaDoorPairS
namespace Go.Proofs.YtldkdgbcnbgmiaaDoor
open Go.RowKit

/-- Miller's steps, one by one. -/
def mSt (P R : Pt) : Nat → (Int × Int) × Pt
  | 0 => ((1, 0), P)
  | k + 1 => mStepS P R (mBits.getD k false) (mSt P R k)

theorem mst_all (P R : Pt) : (mSt P R 9).1 = millS P R := rfl

theorem mbit {j : Nat} (h : j < 9) : 1009 / 2 ^ j % 2 = if mBits.getD (8 - j) false = true then 1 else 0 := by
  have key : ∀ j : Fin 9, 1009 / 2 ^ j.val % 2 = if mBits.getD (8 - j.val) false = true then 1 else 0 := by decide
  exact key ⟨j, h⟩

/-- What Miller's loop needs. -/
structure MilAt (w wr : World) (g : Nat) (P R : Pt) (s : (Int × Int) × Pt) : Prop where
  p : Blk wr g 23 #[.int .i64 P.1, .int .i64 P.2.1, .bool P.2.2]
  q : Blk wr (g + 1) 23 #[.int .i64 R.1, .int .i64 R.2.1, .bool R.2.2]
  r : Blk wr (g + 1 + 1) 45 #[.int .i64 0, .int .i64 0]
  f : Blk wr (g + 1 + 1 + 1) 45 #[.int .i64 s.1.1, .int .i64 s.1.2]
  t : Blk wr (g + 1 + 1 + 1 + 1) 23 #[.int .i64 s.2.1, .int .i64 s.2.2.1, .bool s.2.2.2]
  bel : Below w.heap.size w wr

set_option maxHeartbeats 3200000 in
set_option maxRecDepth 100000 in
theorem sMiller_any (P R : Pt) (w : World) :
    Calls Tryd.prog 47 #[pv P, pv R] w fun e w' => e = .returned (tv (millS P R)) ∧ Below w.heap.size w w' := by
  rw [← mst_all]
  obtain ⟨W, hW, hb, hp, hq, hr, hf, ht⟩ := boxes3r1 w 23 23 45 45 23 #[.int .i64 P.1, .int .i64 P.2.1, .bool P.2.2] #[.int .i64 R.1, .int .i64 R.2.1, .bool R.2.2] #[.int .i64 0, .int .i64 0] #[.int .i64 1, .int .i64 0] #[.int .i64 P.1, .int .i64 P.2.1, .bool P.2.2]
  have H0 : Hid (MilAt w W w.heap.size P R (mSt P R 0)) := ⟨hp, hq, hr, hf, ht, hb⟩
  clear hb hp hq hr hf ht
  go_enter Tryd.func47, Tryd.ntmps47
  go_wp2
  clear hW
  go_loopw [7] (fun i wr => ∃ j : Nat, i = .int .i64 ((j : Int) - 1) ∧ j ≤ 9 ∧ Hid (MilAt w wr w.heap.size P R (mSt P R (9 - j)))) (fun i _ => (intOf i + 1).toNat)
  case atStart => exact ⟨9, rfl, by omega, H0⟩
  case round =>
    obtain ⟨j, rfl, hj, HD⟩ := hrel
    clear H0
    by_cases h0 : j = 0
    · subst h0
      have hneg : ¬ (0 : Int) ≤ ((0 : Nat) : Int) - 1 := by omega
      have hf := HD.out.f
      have hr := HD.out.r
      have hB := HD.out.bel
      clear HD
      have HV : Hid (mSt P R (9 - 0) = mSt P R 9) := rfl
      rw [HV.out] at hf
      have hn1 : ((0 : Nat) : Int) - 1 = -1 := by omega
      rw [hn1] at hneg ⊢
      go_wp2_with (first | (refine load_blk rfl rfl rfl hf Tryd.underlying45 infoT ?_) | (refine store_blk (cs' := #[.int .i64 (mSt P R 9).1.1, .int .i64 (mSt P R 9).1.2]) rfl rfl rfl rfl rfl hr infoT rfl (ones2 _ _) ?_; intro V h5 hoth hbel; have hbV := hbel _ _ (by omega) hB; clear hoth hbel))
      refine bodyPost_ret_by (result_blk rfl rfl h5 Tryd.underlying45 infoT) rfl ⟨rfl, hbV⟩
    · obtain ⟨i, rfl⟩ : ∃ i, j = i + 1 := ⟨j - 1, by omega⟩
      have hi9 : i < 9 := by omega
      have hii : ((i + 1 : Nat) : Int) - 1 = (i : Int) := by omega
      have hi0 : (0 : Int) ≤ (i : Int) := by omega
      have hbit := mbit hi9
      have hst : mSt P R (9 - i) = mStepS P R (mBits.getD (8 - i) false) (mSt P R (8 - i)) := by
        rw [show 9 - i = (8 - i) + 1 by omega]; rfl
      rw [show 9 - (i + 1) = 8 - i by omega] at HD
      rw [hii]
      have HST : Hid (mSt P R (9 - i) = mStepS P R (mBits.getD (8 - i) false) (mSt P R (8 - i))) := hst
      clear hst
      generalize mSt P R (8 - i) = s at HD HST
      generalize mBits.getD (8 - i) false = bit at hbit HST
      obtain ⟨F, T⟩ := s
      have hp := HD.out.p
      have hq := HD.out.q
      have hr := HD.out.r
      have hf := HD.out.f
      have ht := HD.out.t
      have hB := HD.out.bel
      simp only at hf ht
      clear HD
      have hsh : (1009 : Int) / 2 ^ i = ((1009 / 2 ^ i : Nat) : Int) := by rw [Int.natCast_ediv, Int.natCast_pow]; rfl
      have hwu : IntKind.u64.wrap (i : Int) = (i : Int) := IntWalk.u64_in _ (by omega)
      have HM1 : Hid (∀ w, Calls Tryd.prog 49 #[tv F, tv F] w fun e w' => e = .returned (tv (tm F F)) ∧ Below w.heap.size w w') := sMul2_any F F
      have HL1 : Hid (∀ w, Calls Tryd.prog 68 #[pv T, pv T, pv R] w fun e w' => e = .returned (tv (pLineB T T R)) ∧ Below w.heap.size w w') := sLine_any T T R
      have HM2 : Hid (∀ w, Calls Tryd.prog 49 #[tv (tm F F), tv (pLineB T T R)] w fun e w' => e = .returned (tv (tm (tm F F) (pLineB T T R))) ∧ Below w.heap.size w w') := sMul2_any _ _
      have HS1 : Hid (∀ w, Calls Tryd.prog 69 #[pv T, pv T] w fun e w' => e = .returned (pv (pSum T T)) ∧ Below w.heap.size w w') := sPAdd_any T T
      have HL2 : Hid (∀ w, Calls Tryd.prog 68 #[pv (pSum T T), pv P, pv R] w fun e w' => e = .returned (tv (pLineB (pSum T T) P R)) ∧ Below w.heap.size w w') := sLine_any _ P R
      have HM3 : Hid (∀ w, Calls Tryd.prog 49 #[tv (tm (tm F F) (pLineB T T R)), tv (pLineB (pSum T T) P R)] w fun e w' => e = .returned (tv (tm (tm (tm F F) (pLineB T T R)) (pLineB (pSum T T) P R))) ∧ Below w.heap.size w w') := sMul2_any _ _
      have HS2 : Hid (∀ w, Calls Tryd.prog 69 #[pv (pSum T T), pv P] w fun e w' => e = .returned (pv (pSum (pSum T T) P)) ∧ Below w.heap.size w w') := sPAdd_any _ P
      have HST1 : Hid (mStepS P R true (F, T) = (tm (tm (tm F F) (pLineB T T R)) (pLineB (pSum T T) P R), pSum (pSum T T) P)) := rfl
      have HST0 : Hid (mStepS P R false (F, T) = (tm (tm F F) (pLineB T T R), pSum T T)) := rfl
      generalize tm (tm (tm F F) (pLineB T T R)) (pLineB (pSum T T) P R) = F3 at HM3 HST1
      generalize tm (tm F F) (pLineB T T R) = F2 at HM2 HM3 HST0
      generalize tm F F = F1 at HM1 HM2
      generalize pSum (pSum T T) P = T3 at HS2 HST1
      generalize pLineB (pSum T T) P R = L2 at HL2 HM3
      generalize pSum T T = T2 at HS1 HS2 HL2 HST0
      generalize pLineB T T R = L1 at HL1 HM2
      generalize 1009 / 2 ^ i = sh at hsh hbit
      have hrem : Int.tmod (sh : Int) 2 = if bit = true then 1 else 0 := by
        rw [Int.tmod_eq_emod_of_nonneg (Int.natCast_nonneg _)]
        cases bit
        · simp only [Bool.false_eq_true, if_false] at hbit ⊢; omega
        · simp only [if_true] at hbit ⊢; omega
      clear hbit hii
      go_wp2
      refine wp_region_class 8 (fun wz => Below wr.heap.size wr wz) mixes (by kernel_rfl) (Below.refl _ _).drew ?_
      simp only [List.take_succ_cons, List.take_zero, List.drop_succ_cons, List.drop_zero]
      repeat (refine cls_step rfl (fun K hK => ⟨_, (fun w' hw => by have q0 := (hf.on hw hf.lt).cell 0; have q1 := (hf.on hw hf.lt).cell 1; have q2 := (ht.on hw ht.lt).cell 0; have q3 := (ht.on hw ht.lt).cell 1; have q4 := (ht.on hw ht.lt).cell 2; have q5 := (hq.on hw hq.lt).cell 0; have q6 := (hq.on hw hq.lt).cell 1; have q7 := (hq.on hw hq.lt).cell 2; go_simp; exact rfl), ?_⟩); go_simp; refine hK _ ?_; clear hK K)
      refine cls_call rfl (fun K hK => ⟨_, _, _, (fun w' => by go_simp <;> first | exact rfl | exact ⟨rfl, rfl⟩), (fun w' hw => calls_below hw (HM1.out _)), ?_⟩); go_simp; refine hK _ ?_; clear hK K
      repeat (refine cls_step rfl (fun K hK => ⟨_, (fun w' hw => by have q0 := (hf.on hw hf.lt).cell 0; have q1 := (hf.on hw hf.lt).cell 1; have q2 := (ht.on hw ht.lt).cell 0; have q3 := (ht.on hw ht.lt).cell 1; have q4 := (ht.on hw ht.lt).cell 2; have q5 := (hq.on hw hq.lt).cell 0; have q6 := (hq.on hw hq.lt).cell 1; have q7 := (hq.on hw hq.lt).cell 2; go_simp; exact rfl), ?_⟩); go_simp; refine hK _ ?_; clear hK K)
      refine cls_call rfl (fun K hK => ⟨_, _, _, (fun w' => by go_simp <;> first | exact rfl | exact ⟨rfl, rfl⟩), (fun w' hw => calls_below hw (HL1.out _)), ?_⟩); go_simp; refine hK _ ?_; clear hK K
      refine cls_call rfl (fun K hK => ⟨_, _, _, (fun w' => by go_simp <;> first | exact rfl | exact ⟨rfl, rfl⟩), (fun w' hw => calls_below hw (HM2.out _)), ?_⟩); go_simp; refine hK _ ?_; clear hK K
      refine wq_nil ?_
      intro w' hw
      have hp1 := hp.on hw hp.lt
      have hq1 := hq.on hw hq.lt
      have hr1 := hr.on hw hr.lt
      have hf1 := hf.on hw hf.lt
      have ht1 := ht.on hw ht.lt
      have hB1 := below_then hB hw
      clear hp hq hr hf ht hB hw
      go_wp2_with (first | (refine store_blk (cs' := #[.int .i64 F2.1, .int .i64 F2.2]) rfl rfl rfl rfl rfl hf1 infoT rfl (ones2 _ _) ?_; intro V1 hf2 hoth hbel; have hp2 := hoth _ _ _ (by omega) hp1; have hq2 := hoth _ _ _ (by omega) hq1; have hr2 := hoth _ _ _ (by omega) hr1; have ht2 := hoth _ _ _ (by omega) ht1; have hB2 := hbel _ _ (by omega) hB1; clear hoth hbel hp1 hq1 hr1 hf1 ht1 hB1) | (refine load_blk rfl rfl rfl ht2 Tryd.underlying23 infoP ?_))
      refine (HS1.out _).mono ?_
      rintro e w3 ⟨rfl, hw⟩
      have hp3 := hp2.on hw hp2.lt
      have hq3 := hq2.on hw hq2.lt
      have hr3 := hr2.on hw hr2.lt
      have hf3 := hf2.on hw hf2.lt
      have ht3 := ht2.on hw ht2.lt
      have hB3 := below_then hB2 hw
      clear hp2 hq2 hr2 hf2 ht2 hB2 hw
      cases bit
      · simp only [Bool.false_eq_true, if_false] at hrem
        go_wp2_with (first | (refine store_blk (cs' := #[.int .i64 T2.1, .int .i64 T2.2.1, .bool T2.2.2]) rfl rfl rfl rfl rfl ht3 infoP rfl (ones3 _ _ _) ?_; intro V2 ht4 hoth hbel; have hp4 := hoth _ _ _ (by omega) hp3; have hq4 := hoth _ _ _ (by omega) hq3; have hr4 := hoth _ _ _ (by omega) hr3; have hf4 := hoth _ _ _ (by omega) hf3; have hB4 := hbel _ _ (by omega) hB3; clear hoth hbel hp3 hq3 hr3 hf3 ht3 hB3))
        have HD2 : Hid (MilAt w V2 w.heap.size P R (mSt P R (9 - i))) := by rw [HST.out, HST0.out]; exact ⟨hp4, hq4, hr4, hf4, ht4, hB4⟩
        clear hp4 hq4 hr4 hf4 ht4 hB4
        go_roundw
        case rel => exact ⟨i, by go_num, by omega, HD2⟩
        case measure => simp [intOf]
      · simp only [if_true] at hrem
        go_wp2_with (first | (refine store_blk (cs' := #[.int .i64 T2.1, .int .i64 T2.2.1, .bool T2.2.2]) rfl rfl rfl rfl rfl ht3 infoP rfl (ones3 _ _ _) ?_; intro V2 ht4 hoth hbel; have hp4 := hoth _ _ _ (by omega) hp3; have hq4 := hoth _ _ _ (by omega) hq3; have hr4 := hoth _ _ _ (by omega) hr3; have hf4 := hoth _ _ _ (by omega) hf3; have hB4 := hbel _ _ (by omega) hB3; clear hoth hbel hp3 hq3 hr3 hf3 ht3 hB3))
        refine wp_region_class 6 (fun wz => Below V2.heap.size V2 wz) mixes (by kernel_rfl) (Below.refl _ _).drew ?_
        simp only [List.take_succ_cons, List.take_zero, List.drop_succ_cons, List.drop_zero]
        repeat (refine cls_step rfl (fun K hK => ⟨_, (fun w' hw => by have q0 := (hf4.on hw hf4.lt).cell 0; have q1 := (hf4.on hw hf4.lt).cell 1; have q2 := (ht4.on hw ht4.lt).cell 0; have q3 := (ht4.on hw ht4.lt).cell 1; have q4 := (ht4.on hw ht4.lt).cell 2; have q5 := (hp4.on hw hp4.lt).cell 0; have q6 := (hp4.on hw hp4.lt).cell 1; have q7 := (hp4.on hw hp4.lt).cell 2; have q8 := (hq4.on hw hq4.lt).cell 0; have q9 := (hq4.on hw hq4.lt).cell 1; have q10 := (hq4.on hw hq4.lt).cell 2; go_simp; exact rfl), ?_⟩); go_simp; refine hK _ ?_; clear hK K)
        refine cls_call rfl (fun K hK => ⟨_, _, _, (fun w' => by go_simp <;> first | exact rfl | exact ⟨rfl, rfl⟩), (fun w' hw => calls_below hw (HL2.out _)), ?_⟩); go_simp; refine hK _ ?_; clear hK K
        refine cls_call rfl (fun K hK => ⟨_, _, _, (fun w' => by go_simp <;> first | exact rfl | exact ⟨rfl, rfl⟩), (fun w' hw => calls_below hw (HM3.out _)), ?_⟩); go_simp; refine hK _ ?_; clear hK K
        refine wq_nil ?_
        intro w' hw
        have hp5 := hp4.on hw hp4.lt
        have hq5 := hq4.on hw hq4.lt
        have hr5 := hr4.on hw hr4.lt
        have hf5 := hf4.on hw hf4.lt
        have ht5 := ht4.on hw ht4.lt
        have hB5 := below_then hB4 hw
        clear hp4 hq4 hr4 hf4 ht4 hB4 hw
        go_wp2_with (first | (refine store_blk (cs' := #[.int .i64 F3.1, .int .i64 F3.2]) rfl rfl rfl rfl rfl hf5 infoT rfl (ones2 _ _) ?_; intro V3 hf6 hoth hbel; have hp6 := hoth _ _ _ (by omega) hp5; have hq6 := hoth _ _ _ (by omega) hq5; have hr6 := hoth _ _ _ (by omega) hr5; have ht6 := hoth _ _ _ (by omega) ht5; have hB6 := hbel _ _ (by omega) hB5; clear hoth hbel hp5 hq5 hr5 hf5 ht5 hB5) | (refine load_blk rfl rfl rfl ht6 Tryd.underlying23 infoP ?_) | (refine load_blk rfl rfl rfl hp6 Tryd.underlying23 infoP ?_))
        refine (HS2.out _).mono ?_
        rintro e w7 ⟨rfl, hw⟩
        have hp7 := hp6.on hw hp6.lt
        have hq7 := hq6.on hw hq6.lt
        have hr7 := hr6.on hw hr6.lt
        have hf7 := hf6.on hw hf6.lt
        have ht7 := ht6.on hw ht6.lt
        have hB7 := below_then hB6 hw
        clear hp6 hq6 hr6 hf6 ht6 hB6 hw
        go_wp2_with (first | (refine store_blk (cs' := #[.int .i64 T3.1, .int .i64 T3.2.1, .bool T3.2.2]) rfl rfl rfl rfl rfl ht7 infoP rfl (ones3 _ _ _) ?_; intro V4 ht8 hoth hbel; have hp8 := hoth _ _ _ (by omega) hp7; have hq8 := hoth _ _ _ (by omega) hq7; have hr8 := hoth _ _ _ (by omega) hr7; have hf8 := hoth _ _ _ (by omega) hf7; have hB8 := hbel _ _ (by omega) hB7; clear hoth hbel hp7 hq7 hr7 hf7 ht7 hB7))
        have HD2 : Hid (MilAt w V4 w.heap.size P R (mSt P R (9 - i))) := by rw [HST.out, HST1.out]; exact ⟨hp8, hq8, hr8, hf8, ht8, hB8⟩
        clear hp8 hq8 hr8 hf8 ht8 hB8
        go_roundw
        case rel => exact ⟨i, by go_num, by omega, HD2⟩
        case measure => simp [intOf]

end Go.Proofs.YtldkdgbcnbgmiaaDoor
