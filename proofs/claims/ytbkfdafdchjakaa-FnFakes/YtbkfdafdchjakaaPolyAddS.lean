/-
  The walk of the specification's sum of polynomials.
  (-DROP-: what the seat lacks is left out.)
-/
import Derived.Test.YtbkfdafdchjakaaJoined10

namespace Go.Proofs.Ytbkfdafdchjakaa
open Go.RowKit

end Go.Proofs.Ytbkfdafdchjakaa
