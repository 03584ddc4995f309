/-
  The walks of the program's tree of hashes.
-/
import Derived.Test.YtkiljlmihoaaaaaDoorTreeI3
import Derived.Test.YtkiljlmihoaaaaaDoorTreeI4
import Derived.Test.YtkiljlmihoaaaaaDoorTreeI5