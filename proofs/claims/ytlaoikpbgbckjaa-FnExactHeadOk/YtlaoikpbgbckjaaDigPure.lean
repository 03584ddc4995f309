/-
  A digest: plain mathematics.
-/
import Derived.Test.YtlaoikpbgbckjaaMixPure
import Derived.Test.YtlaoikpbgbckjaaText
import Derived.Test.YtlaoikpbgbckjaaPad
namespace Go.Proofs.Ytlaoikpbgbckjaa

/-- Words of a text from a place on, put to a state. -/
def mixA (f : Nat → BitVec 64) (l : List UInt8) (a : Nat) : Nat → Nat → BitVec 64
  | 0 => f
  | k + 1 => upd (mixA f l a k) k (mixA f l a k k ^^^ wordAt l (a + 8 * k))

theorem mixA_at (f : Nat → BitVec 64) (l : List UInt8) (a k i : Nat) : mixA f l a k i = if i < k then f i ^^^ wordAt l (a + 8 * i) else f i := by
  induction k with
  | zero => simp [mixA]
  | succ k ih =>
    rw [mixA]
    unfold upd
    by_cases h : i = k
    · subst h; rw [if_pos rfl, ih, if_neg (by omega), if_pos (by omega)]
    · rw [if_neg h, ih]
      by_cases h2 : i < k
      · rw [if_pos h2, if_pos (by omega)]
      · rw [if_neg h2, if_neg (by omega)]

/-- A block of a text. -/
def blk (l : List UInt8) (k : Nat) : List UInt8 := (l.drop (136 * k)).take 136

theorem wordAt_blk (l : List UInt8) (k i : Nat) (h : i < 17) : wordAt (blk l k) (8 * i) = wordAt l (136 * k + 8 * i) := by
  apply BitVec.eq_of_getLsbD_eq
  intro j hj
  rw [wordAt_bit _ _ _ hj, wordAt_bit _ _ _ hj]
  unfold blk
  rw [List.getD_eq_getElem?_getD, List.getD_eq_getElem?_getD, List.getElem?_take, if_pos (by omega), List.getElem?_drop]
  congr 4
  omega

theorem mixA_blk (f : Nat → BitVec 64) (l : List UInt8) (k : Nat) : mixA f l (136 * k) 17 = mixK f (blk l k) 17 := by
  funext i
  rw [mixA_at, mixK_at]
  by_cases h : i < 17
  · rw [if_pos h, if_pos h, wordAt_blk l k i h]
  · rw [if_neg h, if_neg h]

/-- The state behind k blocks. -/
def absK (l : List UInt8) : Nat → Nat → BitVec 64
  | 0 => zf
  | k + 1 => allF (mixK (absK l k) (blk l k) 17)

/-- How many blocks a text has when it is padded. -/
def blocks (s : ByteArray) : Nat := s.size / 136 + 1

/-- A digest. -/
def digT (s : ByteArray) : ByteArray := textT (absK (padT s).data.toList (blocks s)) 4

theorem padT_size (s : ByteArray) : (padT s).size = 136 * blocks s := by
  have h := padL_length s.data.toList
  have hs : s.data.toList.length = s.size := by simp
  rw [hs] at h
  show ((padL s.data.toList).toArray).size = _
  rw [List.size_toArray, h]; rfl

theorem textL_take (f : Nat → BitVec 64) (k j : Nat) : (textL f (k + j)).take (8 * k) = textL f k := by
  induction j with
  | zero => rw [Nat.add_zero, List.take_of_length_le (by rw [textL_length]; exact Nat.le_refl _)]
  | succ j ih =>
    rw [← Nat.add_assoc, textL, List.take_append_of_le_length (by rw [textL_length]; omega), ih]

theorem textT_size (f : Nat → BitVec 64) (n : Nat) : (textT f n).size = 8 * n := by
  show ((textL f n).toArray).size = _
  rw [List.size_toArray, textL_length]

theorem digT_size (s : ByteArray) : (digT s).size = 32 := textT_size _ 4

theorem bytes_ext {a b : ByteArray} (h : a.data.toList = b.data.toList) : a = b := by
  cases a; cases b; congr 1; exact Array.ext' h

theorem extract_list (s : ByteArray) (a b : Nat) : (s.extract a b).data.toList = (s.data.toList.drop a).take (b - a) := by
  simp [ByteArray.data_extract, Array.toList_extract, List.extract]

theorem textT_cut (f : Nat → BitVec 64) : (textT f 25).extract 0 32 = textT f 4 := by
  apply bytes_ext
  rw [extract_list]
  exact textL_take f 4 21

theorem extract_blk (s : ByteArray) (k : Nat) : (s.extract (136 * k) (136 * k + 136)).data.toList = blk s.data.toList k := by
  rw [extract_list]; unfold blk; congr 1; omega

end Go.Proofs.Ytlaoikpbgbckjaa
