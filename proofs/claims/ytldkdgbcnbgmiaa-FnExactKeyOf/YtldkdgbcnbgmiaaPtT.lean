/-
  The walks of the specification's points: their texts.
  (-DROP-: what the seat lacks is left out.)
-/
import Derived.Test.YtldkdgbcnbgmiaaPtS3
import Derived.Test.YtldkdgbcnbgmiaaRowsB
namespace Go.Proofs.Ytldkdgbcnbgmiaa
open Go.RowKit

end Go.Proofs.Ytldkdgbcnbgmiaa
