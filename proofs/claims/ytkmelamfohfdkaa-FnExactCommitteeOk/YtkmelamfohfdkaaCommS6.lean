/-
  The walk of the specification's committee of a seed.
  (-DROP-: what the seat lacks is left out.)
-/
import Derived.Test.YtkmelamfohfdkaaJoined45
import Derived.Test.YtkmelamfohfdkaaCommS4
import Derived.Test.YtkmelamfohfdkaaJoined47
import Derived.Test.YtkmelamfohfdkaaJoined47
namespace Go.Proofs.Ytkmelamfohfdkaa
open Go.RowKit

/-- The keys of a seed's secrets, so many of them. -/
def keysT (n : Int) (k : Nat) : List Pt := (List.range k).map fun i => keyP (sec n i)
theorem keysT_next (n : Int) (k : Nat) : keysT n (k + 1) = keysT n k ++ [keyP (sec n k)] := by
  unfold keysT
  rw [List.range_succ, List.map_append]
  rfl
theorem keysT_len (n : Int) (k : Nat) : (keysT n k).length = k := by simp [keysT]

theorem ones1 (a : Option Addr) (n c : Nat) : (#[Value.slice a n c]).all (·.oneCell') = true := by simp [Value.oneCell']
theorem owns_nil (B e sz : Nat) (w : World) : w.ownsRow B e sz (.slice none 0 0) 0 [] := ⟨by simp, .inl ⟨rfl, rfl⟩⟩

end Go.Proofs.Ytkmelamfohfdkaa
