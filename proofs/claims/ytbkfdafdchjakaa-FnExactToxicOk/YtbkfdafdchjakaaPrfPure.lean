/-
  Numbers of keys: no program in here.
-/
import Derived.Test.YtbkfdafdchjakaaRwSys

namespace Go.Proofs.Ytbkfdafdchjakaa

/-- What a wire is at Tau, all together. -/
def wireA (al be u v x : Int) : Int := scAdd (scAdd (scMul be u) (scMul al v)) x
def scalB (x : Int) : Bool := decide (1 ≤ x ∧ x ≤ 1008)
/-- Whether the numbers of keys are right for a system. -/
def toxB (wi pu : Int) (n : Nat) (ls : List (List Int)) (ta al be ga de : Int) : Bool := (((((sysOk wi pu n ls && scalB ta) && scalB al) && scalB be) && scalB ga) && scalB de) && decide ((n : Int) < ta)

end Go.Proofs.Ytbkfdafdchjakaa
