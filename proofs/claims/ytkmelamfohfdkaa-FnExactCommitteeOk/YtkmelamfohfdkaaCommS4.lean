/-
  The walk of the specification's keys that are joined by bits.
  (-DROP-: what the seat lacks is left out.)
-/
import Derived.Test.YtkmelamfohfdkaaCommS2
import Derived.Test.YtkmelamfohfdkaaJoined32
import Derived.Maps.AppendAt
import Derived.Test.YtkmelamfohfdkaaOwn
import Derived.Test.YtkmelamfohfdkaaJoined18
namespace Go.Proofs.Ytkmelamfohfdkaa
open Go.RowKit

theorem owns_base {w : World} {B B' e sz n : Nat} {v : Value} {xs : List Value} (h : w.ownsRow B e sz v n xs) (hb : B' ≤ B) : w.ownsRow B' e sz v n xs :=
  ⟨h.1, h.2.elim Or.inl (fun ⟨g, cap, cur, hv, hg, r⟩ => Or.inr ⟨g, cap, cur, hv, Nat.le_trans hb hg, r⟩)⟩

/-- The keys whose bits are set, of so many. -/
def joinN (f : Nat → Pt) (b : Int) : Nat → List Pt
  | 0 => []
  | k + 1 => if b / 2 ^ k % 2 = 1 then joinN f b k ++ [f k] else joinN f b k
def joinP (f : Nat → Pt) (n : Nat) (b : Int) : List Pt := if cOk f n = true ∧ 0 ≤ b ∧ b ≤ 255 then joinN f b 8 else []
theorem joinN_len (f : Nat → Pt) (b : Int) : ∀ k, (joinN f b k).length ≤ k
  | 0 => Nat.le_refl _
  | k + 1 => by
    have := joinN_len f b k
    show List.length (if b / 2 ^ k % 2 = 1 then joinN f b k ++ [f k] else joinN f b k) ≤ k + 1
    split
    · rw [List.length_append]; simp; omega
    · omega

end Go.Proofs.Ytkmelamfohfdkaa
