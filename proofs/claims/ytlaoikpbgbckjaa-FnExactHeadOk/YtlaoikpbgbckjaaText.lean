/-
  The walk of a state as a text.
-/
import Derived.Test.YtlaoikpbgbckjaaMix
namespace Go.Proofs.Ytlaoikpbgbckjaa
open Go.RowKit

/-- n words of a state as a text. -/
def textT (f : Nat → BitVec 64) (n : Nat) : ByteArray := ⟨(textL f n).toArray⟩

end Go.Proofs.Ytlaoikpbgbckjaa
