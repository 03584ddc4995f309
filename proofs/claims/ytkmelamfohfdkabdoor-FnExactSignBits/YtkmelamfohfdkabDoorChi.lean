/-
  The walk of chiW.
-/
import Derived.Test.YtkmelamfohfdkabDoorJoined11
import Derived.Test.YtkmelamfohfdkabDoorJoined12
namespace Go.Proofs.YtkmelamfohfdkabDoor
open Go.RowKit

set_option maxHeartbeats 3200000 in
set_option maxRecDepth 100000 in
theorem chi_any (f : Nat → BitVec 64) (w : World) :
    Calls Tryd.prog 75 #[.agg (sc f 25)] w fun e w' => e = .returned (.agg (sc (chiW f) 25)) ∧ Below w.heap.size w w' := by
  obtain ⟨b1, HB1⟩ : ∃ b, Hid (b = w.heap.size) := ⟨_, rfl⟩
  obtain ⟨b2, HB2⟩ : ∃ b, Hid (b = w.heap.size + 1) := ⟨_, rfl⟩
  go_enter Tryd.func75, Tryd.ntmps75
  go_wp2
  rw [← HB2.out, ← HB1.out]
  go_loopw [3] (fun i wr => ∃ k : Nat, i = .int .i64 (5 * (k : Int)) ∧ k ≤ 5 ∧ At wr b1 78 25 (chiK f k) ∧ At wr b2 78 25 zf ∧ Below b1 w wr) (fun i _ => 25 - (intOf i).toNat)
  case atStart =>
    obtain rfl := HB1.out
    obtain rfl := HB2.out
    refine ⟨0, rfl, by omega, (At.new w _ 25 f).alloc _, ?_, ?_⟩
    · refine At.new' ?_ ?_
      · rw [size_alloc]
      · rfl
    · refine Below.alloc (Below.alloc (Below.refl _ _) (Nat.le_refl _) _) ?_ _ <;> (simp only [size_alloc]; omega)
  case round =>
    obtain ⟨k, rfl, hk, hA1, hA2, hbel⟩ := hrel
    by_cases hlt : k < 5
    · have hlt' : 5 * (k : Int) < 25 := by omega
      obtain ⟨m0, hm0⟩ : ∃ m, m = 5 * k := ⟨_, rfl⟩
      obtain ⟨m1, hm1⟩ : ∃ m, m = 5 * k + 1 := ⟨_, rfl⟩
      obtain ⟨m2, hm2⟩ : ∃ m, m = 5 * k + 2 := ⟨_, rfl⟩
      obtain ⟨m3, hm3⟩ : ∃ m, m = 5 * k + 3 := ⟨_, rfl⟩
      obtain ⟨m4, hm4⟩ : ∃ m, m = 5 * k + 4 := ⟨_, rfl⟩
      have hi0 : 5 * (k : Int) = (m0 : Int) := by omega
      have hi1 : (m0 : Int) + 1 = (m1 : Int) := by omega
      have hi2 : (m0 : Int) + 2 = (m2 : Int) := by omega
      have hi3 : (m0 : Int) + 3 = (m3 : Int) := by omega
      have hi4 : (m0 : Int) + 4 = (m4 : Int) := by omega
      have hl0 : (m0 : Int) < 25 := by omega
      have hl1 : (m1 : Int) < 25 := by omega
      have hl2 : (m2 : Int) < 25 := by omega
      have hl3 : (m3 : Int) < 25 := by omega
      have hl4 : (m4 : Int) < 25 := by omega
      have hc0 := hA1.cell m0 (by omega)
      have hc1 := hA1.cell m1 (by omega)
      have hc2 := hA1.cell m2 (by omega)
      have hc3 := hA1.cell m3 (by omega)
      have hc4 := hA1.cell m4 (by omega)
      have HL : Hid (m0 < 25 ∧ m1 < 25 ∧ m2 < 25 ∧ m3 < 25 ∧ m4 < 25) := (show m0 < 25 ∧ m1 < 25 ∧ m2 < 25 ∧ m3 < 25 ∧ m4 < 25 by omega)
      have HN : Hid (5 * (k : Int) + 5 = 5 * ((k + 1 : Nat) : Int)) := (show 5 * (k : Int) + 5 = 5 * ((k + 1 : Nat) : Int) by omega)
      have hxor := wv_xor
      have hand := wv_and
      have hb0 : (m0 : Int) + 5 ≤ 25 := by omega
      have HE : Hid (chiK f (k + 1) = upd (upd (upd (upd (upd (chiK f k) m0 (chiK f k m0 ^^^ (~~~ chiK f k m1 &&& chiK f k m2))) m1 (chiK f k m1 ^^^ (~~~ chiK f k m2 &&& chiK f k m3))) m2 (chiK f k m2 ^^^ (~~~ chiK f k m3 &&& chiK f k m4))) m3 (chiK f k m3 ^^^ (~~~ chiK f k m4 &&& chiK f k m0))) m4 (chiK f k m4 ^^^ (~~~ chiK f k m0 &&& chiK f k m1))) := by
        show chiK f (k + 1) = _
        rw [hm0, hm1, hm2, hm3, hm4]; rfl
      rw [hi0] at HN
      clear hm0 hm1 hm2 hm3 hm4
      go_wp2
      go_quiet (fail)
      have hA1' := hA1.drewN nq
      have hA2' := hA2.drewN nq
      have hbel' := below_drewN hbel nq
      clear hA1 hA2 hbel hc0 hc1 hc2 hc3 hc4
      generalize wr.drewN nq = w0 at hA1' hA2' hbel' ⊢
      go_wp2_with (first
        | (refine not_word rfl rfl rfl ?_)
        | (refine store_cell rfl rfl rfl rfl hA1' HL.out.1 ?_; intro w1 hB1 ho1 hl1')
        | (refine store_cell rfl rfl rfl rfl hB1 HL.out.2.1 ?_; intro w2 hB2 ho2 hl2')
        | (refine store_cell rfl rfl rfl rfl hB2 HL.out.2.2.1 ?_; intro w3 hB3 ho3 hl3')
        | (refine store_cell rfl rfl rfl rfl hB3 HL.out.2.2.2.1 ?_; intro w4 hB4 ho4 hl4')
        | (refine store_cell rfl rfl rfl rfl hB4 HL.out.2.2.2.2 ?_; intro w5 hB5 ho5 hl5'))
      have hne : b1 ≠ b2 := by have := HB1.out; have := HB2.out; omega
      go_roundw
      case rel =>
        refine ⟨k + 1, by rw [HN.out], hlt, hB5.eq HE.out.symm, ?_, ?_⟩
        · exact ho5 _ _ _ _ hne (ho4 _ _ _ _ hne (ho3 _ _ _ _ hne (ho2 _ _ _ _ hne (ho1 _ _ _ _ hne hA2'))))
        · exact hl5' _ _ (Nat.le_refl _) (hl4' _ _ (Nat.le_refl _) (hl3' _ _ (Nat.le_refl _) (hl2' _ _ (Nat.le_refl _) (hl1' _ _ (Nat.le_refl _) hbel'))))
      case measure => simp [intOf]; omega
    · have hlt' : ¬ 5 * (k : Int) < 25 := by omega
      obtain rfl : k = 5 := by omega
      have HB12 : Hid (b1 ≤ b2) := (show b1 ≤ b2 by have := HB1.out; have := HB2.out; omega)
      have HE : Hid (sc (chiK f 5) 25 = sc (chiW f) 25) := sc_congr fun i hi => chiK_all f i hi
      go_wp2_with (first | (refine load_at rfl rfl rfl hA1 Tryd.underlying78 infoS ?_) | (refine store_at rfl rfl rfl rfl hA2 infoS ?_))
      (try simp only [Exit.inBlock, Exit.then])
      refine bodyPost_ret_by (result_at rfl rfl (hA2.row _) Tryd.underlying78 infoS) rfl ⟨by rw [HE.out], ?_⟩
      rw [← HB1.out]
      exact below_row hbel HB12.out _

end Go.Proofs.YtkmelamfohfdkabDoor
