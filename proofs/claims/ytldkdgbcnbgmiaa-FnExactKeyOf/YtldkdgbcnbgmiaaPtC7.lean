/-
  The walk of the program's SumPoints.
  (-DROP-: what the seat lacks is left out.)
-/
import Derived.Test.YtldkdgbcnbgmiaaPtC6
namespace Go.Proofs.Ytldkdgbcnbgmiaa
open Go.RowKit

end Go.Proofs.Ytldkdgbcnbgmiaa
