/-
  Texts of one's own, joined.
-/
import Derived.Test.YtkmelamfohfdkaaProg
import Derived.Test.YtkmelamfohfdkaaScPure
import Derived.WalkLawsBesides
import Derived.WalkSpells
import Derived.Test.YtkmelamfohfdkaaJoined45
import Derived.Test.YtkmelamfohfdkaaJoined27

/-
  The walks of the program's scalars.
  (-DROP-: what the seat lacks is left out.)
-/
namespace Go.Proofs.Ytkmelamfohfdkaa
open Go.RowKit

end Go.Proofs.Ytkmelamfohfdkaa

/-
  The walk of the program's KeyOf.
  (-DROP-: what the seat lacks is left out.)
-/
namespace Go.Proofs.Ytkmelamfohfdkaa
open Go.RowKit

end Go.Proofs.Ytkmelamfohfdkaa
