/-
  The specification's round: plain mathematics.
-/
import Derived.Test.YtkmelamfohfdkabDoorJoined11
namespace Go.Proofs.YtkmelamfohfdkabDoor

def offL : List Nat := [0, 1, 62, 28, 27, 36, 44, 6, 55, 20, 3, 10, 43, 25, 39, 41, 45, 15, 21, 8, 18, 2, 61, 56, 14]
def offN (i : Nat) : Nat := offL.getD i 0
def offW (i : Nat) : BitVec 64 := BitVec.ofNat 64 (offN i)
theorem offN_lt : ∀ i, i < 25 → offN i < 64 := by decide
theorem offW_val (i : Nat) (h : i < 25) : wv (offW i) = (offN i : Int) := wv_ofNat (by have := offN_lt i h; omega)

/-- The columns, x of them. -/
def cS (f : Nat → BitVec 64) : Nat → Nat → BitVec 64
  | 0 => zf
  | x + 1 => upd (cS f x) x (f x ^^^ f (x + 5) ^^^ f (x + 10) ^^^ f (x + 15) ^^^ f (x + 20))
/-- The turned words of column x, y of them. -/
def spJ (f : Nat → BitVec 64) (d : BitVec 64) (x : Nat) (g : Nat → BitVec 64) : Nat → Nat → BitVec 64
  | 0 => g
  | y + 1 => upd (spJ f d x g y) (y + 5 * ((2 * x + 3 * y) % 5)) (rotl (f (x + 5 * y) ^^^ d) (offN (x + 5 * y)))
def spK (f c : Nat → BitVec 64) : Nat → Nat → BitVec 64
  | 0 => zf
  | x + 1 => spJ f (c ((x + 4) % 5) ^^^ rotl (c ((x + 1) % 5)) 1) x (spK f c x) 5
/-- The last step of row y, x words. -/
def chJ (g : Nat → BitVec 64) (y : Nat) (a : Nat → BitVec 64) : Nat → Nat → BitVec 64
  | 0 => a
  | x + 1 => upd (chJ g y a x) (x + 5 * y) (g (x + 5 * y) ^^^ (~~~ g ((x + 1) % 5 + 5 * y) &&& g ((x + 2) % 5 + 5 * y)))
def chK (g f : Nat → BitVec 64) : Nat → Nat → BitVec 64
  | 0 => f
  | y + 1 => chJ g y (chK g f y) 5
theorem spK_all (f : Nat → BitVec 64) (i : Nat) (h : i < 25) : spK f (cS f 5) 5 i = rhoPi (theta f) i := by
  rcases cases25 h with rfl | rfl | rfl | rfl | rfl | rfl | rfl | rfl | rfl | rfl | rfl | rfl | rfl | rfl | rfl | rfl | rfl | rfl | rfl | rfl | rfl | rfl | rfl | rfl | rfl
  · show rotl (f 0 ^^^ both f 0) 0 = theta f 0
    rw [rotl_zero]; rfl
  all_goals rfl
theorem chK_all (g f : Nat → BitVec 64) (i : Nat) (h : i < 25) : chK g f 5 i = chiW g i := by
  rcases cases25 h with rfl | rfl | rfl | rfl | rfl | rfl | rfl | rfl | rfl | rfl | rfl | rfl | rfl | rfl | rfl | rfl | rfl | rfl | rfl | rfl | rfl | rfl | rfl | rfl | rfl <;> rfl
theorem spec_round (f : Nat → BitVec 64) (c : BitVec 64) (i : Nat) (h : i < 25) :
    upd (chK (spK f (cS f 5) 5) f 5) 0 (chK (spK f (cS f 5) 5) f 5 0 ^^^ c) i = iota (chiW (rhoPi (theta f))) c i := by
  have hc : ∀ i, i < 25 → chK (spK f (cS f 5) 5) f 5 i = chiW (rhoPi (theta f)) i := fun i hi => by
    rw [chK_all _ _ _ hi]
    unfold chiW
    rw [spK_all f i hi, spK_all f _ (by omega), spK_all f ((i % 5 + 2) % 5 + 5 * (i / 5)) (by omega)]
  exact congr_upd hc (by rw [hc 0 (by omega)]) i h

end Go.Proofs.YtkmelamfohfdkabDoor
