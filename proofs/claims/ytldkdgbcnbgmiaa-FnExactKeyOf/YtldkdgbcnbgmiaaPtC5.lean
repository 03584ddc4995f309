/-
  The walk of the text of a place on the curve.
  (-DROP-: what the seat lacks is left out.)
-/
import Derived.Test.YtldkdgbcnbgmiaaPtC3
namespace Go.Proofs.Ytldkdgbcnbgmiaa
open Go.RowKit

end Go.Proofs.Ytldkdgbcnbgmiaa
