/-
  The walk of the program's SumPoints.
  (-DROP-: what the seat lacks is left out.)
-/
import Derived.Test.YtdeahlljllelaaaPtC6
namespace Go.Proofs.Ytdeahlljllelaaa
open Go.RowKit

set_option maxHeartbeats 1600000 in
set_option maxRecDepth 100000 in
theorem iSumP_any (a : Option Addr) (n cp : Nat) (hn : n ≤ 9223372036854775807) (f : Nat → Pt) (w : World) (hA : PtsAt w a n w.heap.size f) :
    Calls Try.prog 28 #[.slice a n cp] w fun e w' => e = .returned (pv (sumN f n)) ∧ Below w.heap.size w w' := by
  have HA : Hid (PtsAt w a n w.heap.size f) := hA
  clear hA
  go_enter Try.func28, Try.ntmps28
  go_wp2
  obtain ⟨W2, hW2, hb2, hr2, h3⟩ := boxes1r w 25 25 #[.int .i64 0, .int .i64 0, .bool false] #[.int .i64 0, .int .i64 0, .bool true]
  rw [hW2]
  have HW2 : Hid (Blk W2 (w.heap.size + 1) 25 (pc (sumN f 0)) ∧ Blk W2 w.heap.size 25 #[.int .i64 0, .int .i64 0, .bool false] ∧ Below w.heap.size w W2) := ⟨h3, hr2, hb2⟩
  clear hb2 hW2 h3 hr2
  go_loopw [9] (fun i wr => ∃ k : Nat, i = .int .i64 (k : Int) ∧ k ≤ n ∧ Hid (Blk wr (w.heap.size + 1) 25 (pc (sumN f k)) ∧ Blk wr w.heap.size 25 #[.int .i64 0, .int .i64 0, .bool false] ∧ Below w.heap.size w wr)) (fun i _ => n - (intOf i).toNat)
  case atStart => exact ⟨0, rfl, Nat.zero_le _, HW2⟩
  case round =>
    obtain ⟨k, rfl, hk, HW⟩ := hrel
    clear HW2
    by_cases hlt : k < n
    · have hlt' : (k : Int) < (n : Int) := by omega
      have hk0 : (0 : Int) ≤ (k : Int) := by omega
      have hA1 := HA.out.on HW.out.2.2
      obtain ⟨b, off, rfl, hb, z0, z1, z2⟩ := hA1 k hlt
      have hs3 := HW.out.1
      have hr3 := HW.out.2.1
      have hB3 := HW.out.2.2
      have HS : Hid (∀ w, Calls Try.prog 11 #[pv (sumN f k), pv (f k)] w fun e w' => e = .returned (pv (sumN f (k + 1))) ∧ Below w.heap.size w w') := iPAdd_any (sumN f k) (f k)
      generalize sumN f k = S at HS hs3
      obtain ⟨S2, hS2⟩ : ∃ S2, S2 = sumN f (k + 1) := ⟨_, rfl⟩
      rw [← hS2] at HS
      have HE : Hid (S2 = sumN f (k + 1)) := hS2
      clear hS2
      generalize f k = F at HS z0 z1 z2
      unfold pv at HS
      unfold pc at hs3
      have hl3 := hs3.lt
      clear HA HW hA1 hb
      go_wp2_with (first | (refine load_blk rfl rfl rfl (hs3.alloc _) Try.underlying25 infoP ?_) | (refine load_blk rfl rfl rfl (Blk.new _ _ _) Try.underlying25 infoP ?_))
      obtain ⟨W5, hW5, hb5, h5⟩ := box1 wr 25 #[.int .i64 F.1, .int .i64 F.2.1, .bool F.2.2]
      rw [hW5]
      have hs5 := hs3.on hb5 hs3.lt
      have hr5 := hr3.on hb5 hr3.lt
      have hB5 := below_then hB3 hb5
      clear hs3 hr3 hB3 hb5 hW5 z0 z1 z2 h5
      refine (HS.out _).mono ?_
      rintro e w6 ⟨rfl, hb6⟩
      have hs6 := hs5.on hb6 hs5.lt
      have hr6 := hr5.on hb6 hr5.lt
      have hB6 := below_then hB5 hb6
      clear hs5 hr5 hB5 hb6
      go_wp2_with (refine store_blk (cs' := pc S2) rfl rfl rfl rfl rfl hs6 infoP rfl (ones3 _ _ _) ?_; intro V hs7 hoth hbel; have hr7 := hoth _ _ _ (by omega) hr6; have hB7 := hbel _ _ (by omega) hB6; clear hoth hbel hs6 hr6 hB6)
      go_roundw
      case rel => exact ⟨k + 1, by go_num, hlt, ⟨by rw [← HE.out]; exact hs7, hr7, hB7⟩⟩
      case measure => simp [intOf]; omega
    · have hlt' : ¬ (k : Int) < (n : Int) := by omega
      have HK : Hid (k = n) := (show k = n by omega)
      have hs3 := HW.out.1
      have hr3 := HW.out.2.1
      have hB3 := HW.out.2.2
      clear HW
      go_wp2_with (first | (refine load_blk rfl rfl rfl hs3 Try.underlying25 infoP ?_) | (refine store_blk (cs' := pc (sumN f k)) rfl rfl rfl rfl rfl hr3 infoP rfl (ones3 _ _ _) ?_; intro V h5 hoth hbel; have hbV := hbel _ _ (by omega) hB3; clear hoth hbel))
      refine bodyPost_ret_by (result_blk rfl rfl h5 Try.underlying25 infoP) rfl ⟨by rw [← HK.out]; rfl, hbV⟩

end Go.Proofs.Ytdeahlljllelaaa
