/-
  The walk of the specification's polynomial through given values.
  (-DROP-: what the seat lacks is left out.)
-/
import Derived.Test.YtfiflcedbejamaaPolySZ
namespace Go.Proofs.Ytfiflcedbejamaa
open Go.RowKit

end Go.Proofs.Ytfiflcedbejamaa
