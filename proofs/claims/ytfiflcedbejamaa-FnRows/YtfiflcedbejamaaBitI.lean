/-
  The walks of the program's bits.
  (-DROP-: what the seat lacks is left out.)
-/
import Derived.Test.YtfiflcedbejamaaJoined20
import Derived.Below
import Derived.WalkLawsBesides
import Derived.WalkSpells
import Derived.Test.YtfiflcedbejamaaProg
namespace Go.Proofs.Ytfiflcedbejamaa
open Go.RowKit

theorem bitsOk_any (b : Int) (w : World) :
    Calls Try.prog 46 #[.int .i64 b] w fun e w' => e = .returned (.bool (decide (0 ≤ b ∧ b ≤ 255))) ∧ w = w' := by
  by_cases h0 : 0 ≤ b
  · by_cases h1 : b ≤ 255
    · rw [decide_eq_true ⟨h0, h1⟩]
      go_enter Try.func46, Try.ntmps46
      go_wp2
      go_ret
      exact ⟨rfl, by trivial⟩
    · rw [decide_eq_false (fun h => h1 h.2)]
      go_enter Try.func46, Try.ntmps46
      go_wp2
      go_ret
      exact ⟨rfl, by trivial⟩
  · rw [decide_eq_false (fun h => h0 h.1)]
    go_enter Try.func46, Try.ntmps46
    go_wp2
    go_ret
    exact ⟨rfl, by trivial⟩

theorem hasBit_any (b : Int) (k : Nat) (hk : k < 8) (b0 : 0 ≤ b) (w : World) :
    Calls Try.prog 73 #[.int .i64 b, .int .i64 (k : Int)] w fun e w' => e = .returned (.bool (decide (b / 2 ^ k % 2 = 1))) ∧ w = w' := by
  have hk0 : (0 : Int) ≤ (k : Int) := by omega
  obtain ⟨m, hm⟩ : ∃ m : Int, b / 2 ^ k = m := ⟨_, rfl⟩
  have hm0 : 0 ≤ m := by rw [← hm]; exact Int.ediv_nonneg b0 (Int.le_of_lt (Int.pow_pos (by decide)))
  obtain ⟨r, hr⟩ : ∃ r : Int, Int.tmod m 2 = r := ⟨_, rfl⟩
  have hre : r = m % 2 := by rw [← hr, Int.tmod_eq_emod_of_nonneg hm0]
  have HR : Hid (m % 2 = r) := hre.symm
  clear hre
  rw [hm, HR.out]
  by_cases h1 : r = 1
  · subst h1
    go_enter Try.func73, Try.ntmps73
    go_wp2
    go_ret
    exact ⟨rfl, by trivial⟩
  · rw [decide_eq_false h1]
    have h1' : (r == 1) = false := by rw [beq_eq_false_iff_ne]; exact h1
    go_enter Try.func73, Try.ntmps73
    go_wp2
    go_ret
    exact ⟨rfl, by trivial⟩

set_option maxHeartbeats 800000 in
set_option maxRecDepth 100000 in
theorem iCount_same (b : Int) (w : World) :
    Calls Try.prog 50 #[.int .i64 b] w fun e w' => e = .returned (.int .i64 (bitsB b)) ∧ w = w' := by
  have HB : Hid (∀ w, Calls Try.prog 46 #[.int .i64 b] w fun e w' => e = .returned (.bool (decide (0 ≤ b ∧ b ≤ 255))) ∧ w = w') := bitsOk_any b
  unfold bitsB
  by_cases hb : 0 ≤ b ∧ b ≤ 255
  · rw [decide_eq_true hb] at HB
    rw [if_pos hb]
    obtain ⟨b0, b1⟩ := hb
    go_enter Try.func50, Try.ntmps50
    go_wp2_with (go_at_call 46; refine (HB.out _).mono ?_; rintro e wz ⟨rfl, rfl⟩)
    go_loopw [3, 8] (fun v i wr => ∃ (k : Nat), v = .int .i64 (bitsN b k) ∧ i = .int .i64 (k : Int) ∧ k ≤ 8 ∧ w = wr) (fun _ i _ => 8 - (intOf i).toNat)
    case atStart => exact ⟨0, rfl, rfl, by omega, rfl⟩
    case round =>
      obtain ⟨k, rfl, rfl, hk, rfl⟩ := hrel
      by_cases hlt : k < 8
      · have hlt' : (k : Int) < 8 := by omega
        obtain ⟨h1, h2⟩ := bitsN_in b k
        have HH : Hid (∀ w, Calls Try.prog 73 #[.int .i64 b, .int .i64 (k : Int)] w fun e w' => e = .returned (.bool (decide (b / 2 ^ k % 2 = 1))) ∧ w = w') := hasBit_any b k hlt b0
        have HN : Hid (bitsN b (k + 1) = bitsN b k + b / 2 ^ k % 2) := rfl
        obtain ⟨r, hr⟩ : ∃ r : Int, b / 2 ^ k % 2 = r := ⟨_, rfl⟩
        have hr0 : r = 0 ∨ r = 1 := by omega
        rw [hr] at HN HH
        clear hr
        generalize bitsN b k = C at h1 h2 HN
        rcases hr0 with rfl | rfl
        · rw [decide_eq_false (by omega)] at HH
          go_wp2_with (go_at_call 73; refine (HH.out _).mono ?_; rintro e wz ⟨rfl, rfl⟩)
          go_roundw
          case rel => exact ⟨k + 1, by rw [HN.out, Int.add_zero], by go_num, by omega, by trivial⟩
          case measure => simp [intOf]; omega
        · rw [decide_eq_true rfl] at HH
          go_wp2_with (go_at_call 73; refine (HH.out _).mono ?_; rintro e wz ⟨rfl, rfl⟩)
          go_roundw
          case rel => exact ⟨k + 1, by rw [HN.out], by go_num, by omega, by trivial⟩
          case measure => simp [intOf]; omega
      · have hlt' : ¬ (k : Int) < 8 := by omega
        obtain rfl : k = 8 := by omega
        go_wp2
        go_ret
        exact ⟨rfl, by trivial⟩
  · rw [decide_eq_false hb] at HB
    rw [if_neg hb]
    go_enter Try.func50, Try.ntmps50
    go_wp2_with (go_at_call 46; refine (HB.out _).mono ?_; rintro e wz ⟨rfl, rfl⟩)
    go_ret
    exact ⟨rfl, by trivial⟩

theorem iCount_any (b : Int) (w : World) :
    Calls Try.prog 50 #[.int .i64 b] w fun e w' => e = .returned (.int .i64 (bitsB b)) ∧ Below w.heap.size w w' :=
  (iCount_same b w).mono (fun _ _ h => ⟨h.1, h.2 ▸ Below.refl _ _⟩)

end Go.Proofs.Ytfiflcedbejamaa
