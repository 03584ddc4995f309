/-
  Systems of products as the document tells of them: no program in here.
-/
import Derived.Test.YtbkfdafdchjakaaBitPure
import Derived.Test.YtbkfdafdchjakaaScPure

namespace Go.Proofs.Ytbkfdafdchjakaa

/-- What is told of bits. -/
def pubOf (b : Int) : List Int := [b, bitsB b]
/-- The bits at so many places. -/
def bitL (b : Int) (k : Nat) : List Int := (List.range k).map fun j => b / 2 ^ j % 2
theorem bitL_next (b : Int) (k : Nat) : bitL b (k + 1) = bitL b k ++ [b / 2 ^ k % 2] := by
  unfold bitL
  rw [List.range_succ, List.map_append]
  rfl
theorem bitL_length (b : Int) (k : Nat) : (bitL b k).length = k := by simp [bitL]
/-- The witness of bits. -/
def witOf (b : Int) : List Int := if 0 ≤ b ∧ b ≤ 255 then [1, b, bitsB b] ++ bitL b 8 else []
theorem witOf_length (b : Int) : (witOf b).length ≤ 11 := by
  unfold witOf
  by_cases h : 0 ≤ b ∧ b ≤ 255
  · rw [if_pos h]; simp [bitL_length]
  · rw [if_neg h]; simp

/-- So many numbers, all of them scalars. -/
def wide (l : List Int) (n : Int) : Bool := decide ((l.length : Int) = n) && l.all fun x => decide (0 ≤ x ∧ x ≤ 1008)

end Go.Proofs.Ytbkfdafdchjakaa
