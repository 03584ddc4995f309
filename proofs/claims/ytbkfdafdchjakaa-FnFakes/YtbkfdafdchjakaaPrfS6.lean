/-
  The walk of the specification's word on whether a proof is right.
  (-DROP-: what the seat lacks is left out.)
-/
import Derived.Test.YtbkfdafdchjakaaJoined20
import Derived.Test.YtbkfdafdchjakaaJoined21
import Derived.Test.YtbkfdafdchjakaaJoined23
import Derived.Test.YtbkfdafdchjakaaJoined22
import Derived.Test.YtbkfdafdchjakaaJoined9

namespace Go.Proofs.Ytbkfdafdchjakaa
open Go.RowKit

/-- Whether a proof may be looked at. -/
def prfMay (n : Nat) (m : List Int) (X Y Z : Pt) : Bool := ((((((inGB X && inGB Y) && inGB Z) && !X.2.2) && !Y.2.2) && decide (n = m.length + 1)) && wide m (m.length : Int))
def prfRight (A B G D I X Y Z : Pt) : Bool := decide (pairS X Y = tm (tm (pairS A B) (pairS I G)) (pairS Z D))
def prfOk (A B G D : Pt) (f : Nat → Pt) (n : Nat) (m : List Int) (X Y Z : Pt) : Bool := prfMay n m X Y Z && prfRight A B G D (inSum f n m) X Y Z

end Go.Proofs.Ytbkfdafdchjakaa
