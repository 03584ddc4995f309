/-
  The contracts of polynomials, all together.
  (-DROP-: what the seat lacks is left out.)
-/
import Derived.Test.YtfiflcedbejamaaPolyI7
import Derived.Test.YtfiflcedbejamaaPolySThr
import Derived.Test.YtfiflcedbejamaaPolySD
import Derived.Test.YtfiflcedbejamaaIntsArg
namespace Go.Proofs.Ytfiflcedbejamaa

end Go.Proofs.Ytfiflcedbejamaa
