/-
  Polynomials as the document tells of them: no program in here.
-/
import Derived.Test.YtfiflcedbejamaaJoined20
namespace Go.Proofs.Ytfiflcedbejamaa

/-- Without 0 at its end. -/
def trimZ (l : List Int) : List Int := (l.reverse.dropWhile fun x => x == 0).reverse
theorem trimZ_nil : trimZ [] = [] := rfl
theorem trimZ_zero (l : List Int) : trimZ (l ++ [0]) = trimZ l := by
  unfold trimZ
  rw [List.reverse_append]
  rfl
theorem trimZ_some (l : List Int) {x : Int} (h : x ≠ 0) : trimZ (l ++ [x]) = l ++ [x] := by
  unfold trimZ
  rw [List.reverse_append]
  have e : (x == 0) = false := by rw [beq_eq_false_iff_ne]; exact h
  show (List.dropWhile (fun x => x == 0) (x :: l.reverse)).reverse = _
  rw [List.dropWhile_cons, e]
  simp
theorem trimZ_len (l : List Int) : (trimZ l).length ≤ l.length := by
  unfold trimZ
  have := (List.dropWhile_sublist (l := l.reverse) (fun x => x == 0)).length_le
  simpa using this
/-- Each as a scalar, without 0 at its end. -/
def pTrim (l : List Int) : List Int := trimZ (l.map sca)
theorem pTrim_len (l : List Int) : (pTrim l).length ≤ l.length := by
  have := trimZ_len (l.map sca)
  unfold pTrim
  simpa using this
/-- What it is at a place. -/
def pAt : List Int → Int → Int
  | [], _ => 0
  | a :: t, x => scAdd (scMul (pAt t x) x) a

/-- Place by place. -/
def padF (a b : List Int) (j : Nat) : Int := if j < b.length then scAdd (if j < a.length then scAdd 0 (a.getD j 0) else 0) (b.getD j 0) else if j < a.length then scAdd 0 (a.getD j 0) else 0
def pAdd (a b : List Int) : List Int := pTrim ((List.range (max a.length b.length)).map (padF a b))
theorem pAdd_len (a b : List Int) : (pAdd a b).length ≤ max a.length b.length := by
  have := pTrim_len ((List.range (max a.length b.length)).map (padF a b))
  unfold pAdd
  simpa using this

end Go.Proofs.Ytfiflcedbejamaa
