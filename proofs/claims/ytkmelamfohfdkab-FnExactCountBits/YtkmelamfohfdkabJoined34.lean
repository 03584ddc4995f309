/-
  Texts of one's own, joined.
-/
import Derived.Test.YtkmelamfohfdkabWordPure

/-
  A round of chapter 3 as plain mathematics.
-/
namespace Go.Proofs.Ytkmelamfohfdkab

def upd (f : Nat → BitVec 64) (i : Nat) (v : BitVec 64) : Nat → BitVec 64 := fun j => if j = i then v else f j
def zf : Nat → BitVec 64 := fun _ => 0#64

/-- Column x. -/
def col (f : Nat → BitVec 64) (x : Nat) : BitVec 64 := f x ^^^ f (x + 5) ^^^ f (x + 10) ^^^ f (x + 15) ^^^ f (x + 20)
def both (f : Nat → BitVec 64) (x : Nat) : BitVec 64 := col f ((x + 4) % 5) ^^^ rotl (col f ((x + 1) % 5)) 1
def theta (f : Nat → BitVec 64) : Nat → BitVec 64 := fun i => f i ^^^ both f (i % 5)

/-- The program's sums: j words of the row y. -/
def colJ (f : Nat → BitVec 64) (y : Nat) (g : Nat → BitVec 64) : Nat → Nat → BitVec 64
  | 0 => g
  | x + 1 => upd (colJ f y g x) x (colJ f y g x x ^^^ f (y + x))
def colK (f : Nat → BitVec 64) : Nat → Nat → BitVec 64
  | 0 => zf
  | k + 1 => colJ f (5 * k) (colK f k) 5
theorem cases5 {i : Nat} (h : i < 5) : i = 0 ∨ i = 1 ∨ i = 2 ∨ i = 3 ∨ i = 4 := by omega
theorem cases25 {i : Nat} (h : i < 25) : i = 0 ∨ i = 1 ∨ i = 2 ∨ i = 3 ∨ i = 4 ∨ i = 5 ∨ i = 6 ∨ i = 7 ∨ i = 8 ∨ i = 9 ∨ i = 10 ∨ i = 11 ∨ i = 12 ∨ i = 13 ∨ i = 14 ∨ i = 15 ∨ i = 16 ∨ i = 17 ∨ i = 18 ∨ i = 19 ∨ i = 20 ∨ i = 21 ∨ i = 22 ∨ i = 23 ∨ i = 24 := by omega
theorem colK_all (f : Nat → BitVec 64) (x : Nat) (h : x < 5) : colK f 5 x = col f x := by
  have e : ∀ a b c d e : BitVec 64, 0#64 ^^^ a ^^^ b ^^^ c ^^^ d ^^^ e = a ^^^ b ^^^ c ^^^ d ^^^ e := fun a b c d e => by rw [BitVec.zero_xor]
  unfold col
  rcases cases5 h with rfl | rfl | rfl | rfl | rfl <;> exact e _ _ _ _ _

/-- Both put to the words of column x: j rows. -/
def thJ (d : BitVec 64) (x : Nat) (g : Nat → BitVec 64) : Nat → Nat → BitVec 64
  | 0 => g
  | y + 1 => upd (thJ d x g y) (5 * y + x) (thJ d x g y (5 * y + x) ^^^ d)
def thK (c : Nat → BitVec 64) (f : Nat → BitVec 64) : Nat → Nat → BitVec 64
  | 0 => f
  | x + 1 => thJ (c ((x + 4) % 5) ^^^ rotl (c ((x + 1) % 5)) 1) x (thK c f x) 5
theorem thK_all (f : Nat → BitVec 64) (i : Nat) (h : i < 25) : thK (col f) f 5 i = theta f i := by
  rcases cases25 h with rfl | rfl | rfl | rfl | rfl | rfl | rfl | rfl | rfl | rfl | rfl | rfl | rfl | rfl | rfl | rfl | rfl | rfl | rfl | rfl | rfl | rfl | rfl | rfl | rfl <;> rfl
theorem thK_congr {c c' : Nat → BitVec 64} (h : ∀ x, x < 5 → c x = c' x) (f : Nat → BitVec 64) : ∀ k, thK c f k = thK c' f k
  | 0 => rfl
  | k + 1 => by rw [thK, thK, thK_congr h f k, h _ (Nat.mod_lt _ (by decide)), h _ (Nat.mod_lt _ (by decide))]
theorem theta_none (f : Nat → BitVec 64) (h : ∀ x, x < 5 → col f x = 0#64) (i : Nat) : theta f i = f i := by
  unfold theta both
  rw [h _ (Nat.mod_lt _ (by decide)), h _ (Nat.mod_lt _ (by decide)), rotl_of_zero]
  simp

/-- chiW. -/
def chiW (f : Nat → BitVec 64) : Nat → BitVec 64 := fun i => f i ^^^ (~~~ f ((i % 5 + 1) % 5 + 5 * (i / 5)) &&& f ((i % 5 + 2) % 5 + 5 * (i / 5)))
def chiRow (g : Nat → BitVec 64) (y : Nat) : Nat → BitVec 64 :=
  upd (upd (upd (upd (upd g y (g y ^^^ (~~~ g (y + 1) &&& g (y + 2)))) (y + 1) (g (y + 1) ^^^ (~~~ g (y + 2) &&& g (y + 3)))) (y + 2) (g (y + 2) ^^^ (~~~ g (y + 3) &&& g (y + 4)))) (y + 3) (g (y + 3) ^^^ (~~~ g (y + 4) &&& g y))) (y + 4) (g (y + 4) ^^^ (~~~ g y &&& g (y + 1)))
def chiK (f : Nat → BitVec 64) : Nat → Nat → BitVec 64
  | 0 => f
  | k + 1 => chiRow (chiK f k) (5 * k)
theorem chiK_all (f : Nat → BitVec 64) (i : Nat) (h : i < 25) : chiK f 5 i = chiW f i := by
  rcases cases25 h with rfl | rfl | rfl | rfl | rfl | rfl | rfl | rfl | rfl | rfl | rfl | rfl | rfl | rfl | rfl | rfl | rfl | rfl | rfl | rfl | rfl | rfl | rfl | rfl | rfl <;> rfl

/-- The walk of rho and pi: where it is behind k steps, how far it turns there. -/
def placeN : Nat → Nat × Nat
  | 0 => (1, 0)
  | k + 1 => ((placeN k).2, (2 * (placeN k).1 + 3 * (placeN k).2) % 5)
def idxN (k : Nat) : Nat := (placeN k).1 + 5 * (placeN k).2
def tri : Nat → Nat
  | 0 => 0
  | k + 1 => tri k + (k + 1)
def rpK (f : Nat → BitVec 64) : Nat → Nat → BitVec 64
  | 0 => f
  | k + 1 => upd (rpK f k) (idxN (k + 1)) (rotl (f (idxN k)) (tri (k + 1) % 64))
def rhoPi (f : Nat → BitVec 64) : Nat → BitVec 64 := rpK f 24
theorem placeN_lt : ∀ k, (placeN k).1 < 5 ∧ (placeN k).2 < 5
  | 0 => by decide
  | k + 1 => ⟨(placeN_lt k).2, Nat.mod_lt _ (by decide)⟩
theorem idxN_lt (k : Nat) : idxN k < 25 := by have := placeN_lt k; unfold idxN; omega
theorem tri_le : ∀ k, k ≤ 24 → tri k ≤ 300 := by decide
theorem placeN_end : ∀ k, k < 24 → (placeN (k + 1) = (1, 0) ↔ k = 23) := by decide

/-- What iota puts to the first word. -/
def rcL : List Nat := [0x0000000000000001, 0x0000000000008082, 0x800000000000808a, 0x8000000080008000, 0x000000000000808b, 0x0000000080000001, 0x8000000080008081, 0x8000000000008009, 0x000000000000008a, 0x0000000000000088, 0x0000000080008009, 0x000000008000000a, 0x000000008000808b, 0x800000000000008b, 0x8000000000008089, 0x8000000000008003, 0x8000000000008002, 0x8000000000000080, 0x000000000000800a, 0x800000008000000a, 0x8000000080008081, 0x8000000000008080, 0x0000000080000001, 0x8000000080008008]
def rcW (r : Nat) : BitVec 64 := BitVec.ofNat 64 (rcL.getD r 0)
def iota (g : Nat → BitVec 64) (c : BitVec 64) : Nat → BitVec 64 := upd g 0 (g 0 ^^^ c)
def roundF (f : Nat → BitVec 64) (r : Nat) : Nat → BitVec 64 := iota (chiW (rhoPi (theta f))) (rcW r)
def allK (f : Nat → BitVec 64) : Nat → Nat → BitVec 64
  | 0 => f
  | k + 1 => roundF (allK f k) k
def allF (f : Nat → BitVec 64) : Nat → BitVec 64 := allK f 24

end Go.Proofs.Ytkmelamfohfdkab

/-
  Words put to a state, a state as a text: plain mathematics.
-/
namespace Go.Proofs.Ytkmelamfohfdkab

/-- The first k words of a text put to a state. -/
def mixK (f : Nat → BitVec 64) (l : List UInt8) : Nat → Nat → BitVec 64
  | 0 => f
  | k + 1 => upd (mixK f l k) k (mixK f l k k ^^^ wordAt l (8 * k))
/-- The first k words of a state as bytes. -/
def textL (f : Nat → BitVec 64) : Nat → List UInt8
  | 0 => []
  | k + 1 => textL f k ++ bytesOf (f k) 8
theorem textL_length (f : Nat → BitVec 64) (k : Nat) : (textL f k).length = 8 * k := by
  induction k with
  | zero => rfl
  | succ k ih => rw [textL, List.length_append, ih, bytesOf_length]; omega
theorem textL_congr {f g : Nat → BitVec 64} (k : Nat) (h : ∀ i, i < k → f i = g i) : textL f k = textL g k := by
  induction k with
  | zero => rfl
  | succ k ih => rw [textL, textL, ih (fun i hi => h i (by omega)), h k (by omega)]
theorem textL_getD (f : Nat → BitVec 64) (k i : Nat) (hi : i < 8 * k) : (textL f k).getD i 0 = byteOf (f (i / 8)) (i % 8) := by
  induction k with
  | zero => omega
  | succ k ih =>
    rw [textL, List.getD_eq_getElem?_getD]
    by_cases h : i < 8 * k
    · rw [List.getElem?_append_left (by rw [textL_length]; exact h), ← List.getD_eq_getElem?_getD, ih h]
    · rw [List.getElem?_append_right (by rw [textL_length]; omega), textL_length, ← List.getD_eq_getElem?_getD, bytesOf_getD _ _ _ (by omega)]
      rw [show i / 8 = k by omega, show i % 8 = i - 8 * k by omega]
theorem wordAt_drop (l : List UInt8) (a : Nat) : wordAt (l.drop a) 0 = wordAt l a := by
  apply BitVec.eq_of_getLsbD_eq
  intro j hj
  rw [wordAt_bit _ _ _ hj, wordAt_bit _ _ _ hj]
  simp [List.getD_eq_getElem?_getD, List.getElem?_drop]
theorem mixK_at (f : Nat → BitVec 64) (l : List UInt8) (k i : Nat) : mixK f l k i = if i < k then f i ^^^ wordAt l (8 * i) else f i := by
  induction k with
  | zero => simp [mixK]
  | succ k ih =>
    rw [mixK]
    unfold upd
    by_cases h : i = k
    · subst h; rw [if_pos rfl, ih, if_neg (by omega), if_pos (by omega)]
    · rw [if_neg h, ih]
      by_cases h2 : i < k
      · rw [if_pos h2, if_pos (by omega)]
      · rw [if_neg h2, if_neg (by omega)]
/-- The words of a text. -/
def loadF (l : List UInt8) : Nat → BitVec 64 := fun i => wordAt l (8 * i)
theorem mixK_zero (l : List UInt8) (i : Nat) (h : i < 25) : mixK zf l 25 i = loadF l i := by
  rw [mixK_at, if_pos h]; simp [zf, loadF]
theorem loadF_textL (f : Nat → BitVec 64) (k i : Nat) (h : i < k) : loadF (textL f k) i = f i := by
  apply BitVec.eq_of_getLsbD_eq
  intro j hj
  rw [loadF, wordAt_bit _ _ _ hj, textL_getD _ _ _ (by omega), byteOf_bit, show (8 * i + j / 8) / 8 = i by omega, show (8 * i + j / 8) % 8 = j / 8 by omega]
  rw [show 8 * (j / 8) + j % 8 = j by omega]
  simp; omega
theorem congr_upd {f g : Nat → BitVec 64} {n i : Nat} {v v' : BitVec 64} (h : ∀ j, j < n → f j = g j) (hv : v = v') : ∀ j, j < n → upd f i v j = upd g i v' j := by
  intro j hj
  unfold upd
  by_cases e : j = i
  · rw [if_pos e, if_pos e, hv]
  · rw [if_neg e, if_neg e, h j hj]
theorem roundF_congr {f g : Nat → BitVec 64} (h : ∀ i, i < 25 → f i = g i) (r : Nat) : ∀ i, i < 25 → roundF f r i = roundF g r i := by
  have ht : ∀ i, i < 25 → theta f i = theta g i := fun i hi => by
    unfold theta both col
    rw [h i hi, h ((i % 5 + 4) % 5) (by omega), h ((i % 5 + 4) % 5 + 5) (by omega), h ((i % 5 + 4) % 5 + 10) (by omega), h ((i % 5 + 4) % 5 + 15) (by omega), h ((i % 5 + 4) % 5 + 20) (by omega),
      h ((i % 5 + 1) % 5) (by omega), h ((i % 5 + 1) % 5 + 5) (by omega), h ((i % 5 + 1) % 5 + 10) (by omega), h ((i % 5 + 1) % 5 + 15) (by omega), h ((i % 5 + 1) % 5 + 20) (by omega)]
  have hp : ∀ k i, i < 25 → rpK (theta f) k i = rpK (theta g) k i := fun k => by
    induction k with
    | zero => exact ht
    | succ k ih => exact congr_upd ih (by rw [ht _ (idxN_lt k)])
  have hr : ∀ i, i < 25 → rhoPi (theta f) i = rhoPi (theta g) i := hp 24
  have hc : ∀ i, i < 25 → chiW (rhoPi (theta f)) i = chiW (rhoPi (theta g)) i := fun i hi => by
    unfold chiW
    rw [hr i hi, hr _ (by omega), hr ((i % 5 + 2) % 5 + 5 * (i / 5)) (by omega)]
  exact congr_upd hc (by rw [hc 0 (by omega)])
theorem allK_congr {f g : Nat → BitVec 64} (h : ∀ i, i < 25 → f i = g i) (k : Nat) : ∀ i, i < 25 → allK f k i = allK g k i := by
  induction k with
  | zero => exact h
  | succ k ih => exact roundF_congr ih k

end Go.Proofs.Ytkmelamfohfdkab
