/-
  Words put to a state, a state as a text: plain mathematics.
-/
import Derived.Test.YtlaoikpbgbckjaaRoundPure
namespace Go.Proofs.Ytlaoikpbgbckjaa

/-- The first k words of a text put to a state. -/
def mixK (f : Nat → BitVec 64) (l : List UInt8) : Nat → Nat → BitVec 64
  | 0 => f
  | k + 1 => upd (mixK f l k) k (mixK f l k k ^^^ wordAt l (8 * k))
/-- The first k words of a state as bytes. -/
def textL (f : Nat → BitVec 64) : Nat → List UInt8
  | 0 => []
  | k + 1 => textL f k ++ bytesOf (f k) 8
theorem textL_length (f : Nat → BitVec 64) (k : Nat) : (textL f k).length = 8 * k := by
  induction k with
  | zero => rfl
  | succ k ih => rw [textL, List.length_append, ih, bytesOf_length]; omega
theorem textL_congr {f g : Nat → BitVec 64} (k : Nat) (h : ∀ i, i < k → f i = g i) : textL f k = textL g k := by
  induction k with
  | zero => rfl
  | succ k ih => rw [textL, textL, ih (fun i hi => h i (by omega)), h k (by omega)]
theorem textL_getD (f : Nat → BitVec 64) (k i : Nat) (hi : i < 8 * k) : (textL f k).getD i 0 = byteOf (f (i / 8)) (i % 8) := by
  induction k with
  | zero => omega
  | succ k ih =>
    rw [textL, List.getD_eq_getElem?_getD]
    by_cases h : i < 8 * k
    · rw [List.getElem?_append_left (by rw [textL_length]; exact h), ← List.getD_eq_getElem?_getD, ih h]
    · rw [List.getElem?_append_right (by rw [textL_length]; omega), textL_length, ← List.getD_eq_getElem?_getD, bytesOf_getD _ _ _ (by omega)]
      rw [show i / 8 = k by omega, show i % 8 = i - 8 * k by omega]
theorem wordAt_drop (l : List UInt8) (a : Nat) : wordAt (l.drop a) 0 = wordAt l a := by
  apply BitVec.eq_of_getLsbD_eq
  intro j hj
  rw [wordAt_bit _ _ _ hj, wordAt_bit _ _ _ hj]
  simp [List.getD_eq_getElem?_getD, List.getElem?_drop]
theorem mixK_at (f : Nat → BitVec 64) (l : List UInt8) (k i : Nat) : mixK f l k i = if i < k then f i ^^^ wordAt l (8 * i) else f i := by
  induction k with
  | zero => simp [mixK]
  | succ k ih =>
    rw [mixK]
    unfold upd
    by_cases h : i = k
    · subst h; rw [if_pos rfl, ih, if_neg (by omega), if_pos (by omega)]
    · rw [if_neg h, ih]
      by_cases h2 : i < k
      · rw [if_pos h2, if_pos (by omega)]
      · rw [if_neg h2, if_neg (by omega)]
/-- The words of a text. -/
def loadF (l : List UInt8) : Nat → BitVec 64 := fun i => wordAt l (8 * i)
theorem mixK_zero (l : List UInt8) (i : Nat) (h : i < 25) : mixK zf l 25 i = loadF l i := by
  rw [mixK_at, if_pos h]; simp [zf, loadF]
theorem loadF_textL (f : Nat → BitVec 64) (k i : Nat) (h : i < k) : loadF (textL f k) i = f i := by
  apply BitVec.eq_of_getLsbD_eq
  intro j hj
  rw [loadF, wordAt_bit _ _ _ hj, textL_getD _ _ _ (by omega), byteOf_bit, show (8 * i + j / 8) / 8 = i by omega, show (8 * i + j / 8) % 8 = j / 8 by omega]
  rw [show 8 * (j / 8) + j % 8 = j by omega]
  simp; omega
theorem congr_upd {f g : Nat → BitVec 64} {n i : Nat} {v v' : BitVec 64} (h : ∀ j, j < n → f j = g j) (hv : v = v') : ∀ j, j < n → upd f i v j = upd g i v' j := by
  intro j hj
  unfold upd
  by_cases e : j = i
  · rw [if_pos e, if_pos e, hv]
  · rw [if_neg e, if_neg e, h j hj]
theorem roundF_congr {f g : Nat → BitVec 64} (h : ∀ i, i < 25 → f i = g i) (r : Nat) : ∀ i, i < 25 → roundF f r i = roundF g r i := by
  have ht : ∀ i, i < 25 → theta f i = theta g i := fun i hi => by
    unfold theta both col
    rw [h i hi, h ((i % 5 + 4) % 5) (by omega), h ((i % 5 + 4) % 5 + 5) (by omega), h ((i % 5 + 4) % 5 + 10) (by omega), h ((i % 5 + 4) % 5 + 15) (by omega), h ((i % 5 + 4) % 5 + 20) (by omega),
      h ((i % 5 + 1) % 5) (by omega), h ((i % 5 + 1) % 5 + 5) (by omega), h ((i % 5 + 1) % 5 + 10) (by omega), h ((i % 5 + 1) % 5 + 15) (by omega), h ((i % 5 + 1) % 5 + 20) (by omega)]
  have hp : ∀ k i, i < 25 → rpK (theta f) k i = rpK (theta g) k i := fun k => by
    induction k with
    | zero => exact ht
    | succ k ih => exact congr_upd ih (by rw [ht _ (idxN_lt k)])
  have hr : ∀ i, i < 25 → rhoPi (theta f) i = rhoPi (theta g) i := hp 24
  have hc : ∀ i, i < 25 → chiW (rhoPi (theta f)) i = chiW (rhoPi (theta g)) i := fun i hi => by
    unfold chiW
    rw [hr i hi, hr _ (by omega), hr ((i % 5 + 2) % 5 + 5 * (i / 5)) (by omega)]
  exact congr_upd hc (by rw [hc 0 (by omega)])
theorem allK_congr {f g : Nat → BitVec 64} (h : ∀ i, i < 25 → f i = g i) (k : Nat) : ∀ i, i < 25 → allK f k i = allK g k i := by
  induction k with
  | zero => exact h
  | succ k ih => exact roundF_congr ih k

end Go.Proofs.Ytlaoikpbgbckjaa
