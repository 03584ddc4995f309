/-
  The walks of the specification's polynomial with given zeros and of its polynomial through given values.
  (-DROP-: what the seat lacks is left out.)
-/
import Derived.Test.YtfiflcedbejamaaPolyMulS
import Derived.Test.YtfiflcedbejamaaPolyAddS
import Derived.Test.YtfiflcedbejamaaPolyThr
import Derived.Test.YtfiflcedbejamaaOrd
namespace Go.Proofs.Ytfiflcedbejamaa
open Go.RowKit

set_option maxHeartbeats 800000 in
set_option maxRecDepth 100000 in
theorem in16_any (n : Int) (w : World) : Calls Try.prog 55 #[.int .i64 n, .int .i64 0, .int .i64 16] w fun e w' => e = .returned (.bool (decide (0 ≤ n ∧ n ≤ 16))) ∧ w = w' := by
  by_cases h1 : n ≥ 0
  · by_cases h2 : n ≤ 16
    · have e : decide (0 ≤ n ∧ n ≤ 16) = true := by simp; omega
      rw [e]
      go_enter Try.func55, Try.ntmps55
      go_wp2
      go_ret
      exact ⟨rfl, rfl⟩
    · have e : decide (0 ≤ n ∧ n ≤ 16) = false := by simp; omega
      rw [e]
      go_enter Try.func55, Try.ntmps55
      go_wp2
      go_ret
      exact ⟨rfl, rfl⟩
  · have e : decide (0 ≤ n ∧ n ≤ 16) = false := by simp; omega
    rw [e]
    go_enter Try.func55, Try.ntmps55
    go_wp2
    go_ret
    exact ⟨rfl, rfl⟩

end Go.Proofs.Ytfiflcedbejamaa
