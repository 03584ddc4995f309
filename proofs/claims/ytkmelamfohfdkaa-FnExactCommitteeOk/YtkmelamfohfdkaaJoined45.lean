/-
  Texts of one's own, joined.
-/
import Derived.Test.YtkmelamfohfdkaaPtPure
import Derived.Test.YtkmelamfohfdkaaScPure
import Derived.Test.YtkmelamfohfdkaaProg
import Derived.WalkLawsBesides
import Derived.WalkSpells
import Derived.Test.YtkmelamfohfdkaaJoined21

/-
  Keys, and what they sign.
-/
namespace Go.Proofs.Ytkmelamfohfdkaa

/-- The key of a secret, and what it signs. -/
def keyP (k : Int) : Pt := pTimes (sca k) pB
def signP (k : Int) (H : Pt) : Pt := pTimes (sca k) H

theorem sca_nat (k : Int) : sca k = (scn k : Int) ∧ scn k < 1009 := by
  have h0 := sca_nonneg k
  have h1 := sca_lt k
  unfold scn
  omega

theorem key_mul (k : Int) : keyP k = pMul pB (scn k) := by
  unfold keyP
  obtain ⟨h1, h2⟩ := sca_nat k
  rw [h1, ptimes_small pb_ok (by omega)]

end Go.Proofs.Ytkmelamfohfdkaa

/-
  The walks of the specification's scalars.
  (-DROP-: what the seat lacks is left out.)
-/
namespace Go.Proofs.Ytkmelamfohfdkaa
open Go.RowKit

end Go.Proofs.Ytkmelamfohfdkaa

/-
  The walk of the specification's KeyOf.
  (-DROP-: what the seat lacks is left out.)
-/
namespace Go.Proofs.Ytkmelamfohfdkaa
open Go.RowKit

end Go.Proofs.Ytkmelamfohfdkaa
