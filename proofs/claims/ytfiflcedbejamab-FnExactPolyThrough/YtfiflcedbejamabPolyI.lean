/-
  The contracts of polynomials, all together.
  (-DROP-: what the seat lacks is left out.)
-/
import Derived.Test.YtfiflcedbejamabPolyI7
import Derived.Test.YtfiflcedbejamabPolySThr
import Derived.Test.YtfiflcedbejamabPolySD
import Derived.Test.YtfiflcedbejamabIntsArg
namespace Go.Proofs.Ytfiflcedbejamab

end Go.Proofs.Ytfiflcedbejamab
