/-
  Texts of one's own, joined.
-/
import Derived.Test.YtjlijflfepffiaaJoined18
import Derived.Test.YtjlijflfepffiaaJoined25
import Derived.Below
import Derived.WalkLawsBesides
import Derived.WalkSpells
import Derived.Test.YtjlijflfepffiaaProg

/-
  The walk of the specification's bits.
  (-DROP-: what the seat lacks is left out.)
-/
namespace Go.Proofs.Ytjlijflfepffiaa
open Go.RowKit

set_option maxHeartbeats 800000 in
set_option maxRecDepth 100000 in
theorem sCount_any (b : Int) (w : World) :
    Calls Try.prog 102 #[.int .i64 b] w fun e w' => e = .returned (.int .i64 (bitsB b)) ∧ w = w' := by
  have HB : Hid (∀ w, Calls Try.prog 92 #[.int .i64 b, .int .i64 0, .int .i64 255] w fun e w' => e = .returned (.bool (decide (0 ≤ b ∧ b ≤ 255))) ∧ w = w') := sBetween_any b 0 255
  unfold bitsB
  by_cases hb : 0 ≤ b ∧ b ≤ 255
  · rw [decide_eq_true hb] at HB
    rw [if_pos hb]
    obtain ⟨b0, b1⟩ := hb
    go_enter Try.func102, Try.ntmps102
    go_wp2_with (go_at_call 92; refine (HB.out _).mono ?_; rintro e wz ⟨rfl, rfl⟩)
    go_loopw [3, 4] (fun v i wr => ∃ (k : Nat), v = .int .i64 (bitsN b k) ∧ i = .int .i64 (k : Int) ∧ k ≤ 8 ∧ w = wr) (fun _ i _ => 8 - (intOf i).toNat)
    case atStart => exact ⟨0, rfl, rfl, by omega, rfl⟩
    case round =>
      obtain ⟨k, rfl, rfl, hk, rfl⟩ := hrel
      by_cases hlt : k < 8
      · have hlt' : (k : Int) < 8 := by omega
        obtain ⟨m, hm⟩ : ∃ m : Int, b / 2 ^ k = m := ⟨_, rfl⟩
        have hm0 : 0 ≤ m := by rw [← hm]; exact Int.ediv_nonneg b0 (Int.le_of_lt (Int.pow_pos (by decide)))
        obtain ⟨r, hr⟩ : ∃ r : Int, Int.tmod m 2 = r := ⟨_, rfl⟩
        have hre : r = m % 2 := by rw [← hr, Int.tmod_eq_emod_of_nonneg hm0]
        obtain ⟨h1, h2⟩ := bitsN_in b k
        have HN : Hid (bitsN b (k + 1) = bitsN b k + r) := by show bitsN b k + b / 2 ^ k % 2 = _; rw [hm, hre]
        have hr0 : 0 ≤ r ∧ r ≤ 1 := by omega
        generalize bitsN b k = C at h1 h2 HN
        clear hre
        go_wp2
        go_roundw
        case rel => exact ⟨k + 1, by rw [HN.out], by go_num, by omega, by trivial⟩
        case measure => simp [intOf]; omega
      · have hlt' : ¬ (k : Int) < 8 := by omega
        obtain rfl : k = 8 := by omega
        go_wp2
        go_ret
        exact ⟨rfl, by trivial⟩
  · rw [decide_eq_false hb] at HB
    rw [if_neg hb]
    go_enter Try.func102, Try.ntmps102
    go_wp2_with (go_at_call 92; refine (HB.out _).mono ?_; rintro e wz ⟨rfl, rfl⟩)
    go_ret
    exact ⟨rfl, by trivial⟩

end Go.Proofs.Ytjlijflfepffiaa

/-
  The walks of the program's bits.
  (-DROP-: what the seat lacks is left out.)
-/
namespace Go.Proofs.Ytjlijflfepffiaa
open Go.RowKit

end Go.Proofs.Ytjlijflfepffiaa
