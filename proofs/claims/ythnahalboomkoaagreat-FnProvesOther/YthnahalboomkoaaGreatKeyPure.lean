/-
  Keys, and what they sign.
-/
import Derived.Test.YthnahalboomkoaaGreatJoined2
import Derived.Test.YthnahalboomkoaaGreatJoined6

namespace Go.Proofs.YthnahalboomkoaaGreat

/-- The key of a secret, and what it signs. -/
def keyP (k : Int) : Pt := pTimes (sca k) pB
def signP (k : Int) (H : Pt) : Pt := pTimes (sca k) H

theorem sca_nat (k : Int) : sca k = (scn k : Int) ∧ scn k < 1009 := by
  have h0 := sca_nonneg k
  have h1 := sca_lt k
  unfold scn
  omega

theorem key_mul (k : Int) : keyP k = pMul pB (scn k) := by
  unfold keyP
  obtain ⟨h1, h2⟩ := sca_nat k
  rw [h1, ptimes_small pb_ok (by omega)]

end Go.Proofs.YthnahalboomkoaaGreat
