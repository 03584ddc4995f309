/-
  The walk of the specification's text of a proof.
  (-DROP-: what the seat lacks is left out.)
-/
import Derived.Test.YthnahalboomkoaaGreatJoined5
import Derived.Test.YthnahalboomkoaaGreatJoined4
import Derived.Test.YthnahalboomkoaaGreatJoined6

namespace Go.Proofs.YthnahalboomkoaaGreat
open Go.RowKit

theorem ptText_small (P : Pt) : (ptText P).size ≤ 3 := by
  show (ptBytes P).toArray.size ≤ 3
  unfold ptBytes
  split
  · split <;> simp
  · simp
/-- The cells of a proof. -/
def prfC (A B C : Pt) : Array Value := #[.int .i64 A.1, .int .i64 A.2.1, .bool A.2.2, .int .i64 B.1, .int .i64 B.2.1, .bool B.2.2, .int .i64 C.1, .int .i64 C.2.1, .bool C.2.2]
def prfIn (A B C : Pt) : Bool := inGB A && (inGB B && inGB C)
def prfText (A B C : Pt) : ByteArray := if prfIn A B C then ptText A ++ ptText B ++ ptText C else ByteArray.empty

end Go.Proofs.YthnahalboomkoaaGreat
