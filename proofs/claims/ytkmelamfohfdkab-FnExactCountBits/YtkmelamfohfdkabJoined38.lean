/-
  Texts of one's own, joined.
-/
import Derived.Test.YtkmelamfohfdkabJoined34
import Derived.Test.YtkmelamfohfdkabJoined36
import Derived.Test.YtkmelamfohfdkabJoined37

/-
  A digest: plain mathematics.
-/
namespace Go.Proofs.Ytkmelamfohfdkab

/-- Words of a text from a place on, put to a state. -/
def mixA (f : Nat → BitVec 64) (l : List UInt8) (a : Nat) : Nat → Nat → BitVec 64
  | 0 => f
  | k + 1 => upd (mixA f l a k) k (mixA f l a k k ^^^ wordAt l (a + 8 * k))

theorem mixA_at (f : Nat → BitVec 64) (l : List UInt8) (a k i : Nat) : mixA f l a k i = if i < k then f i ^^^ wordAt l (a + 8 * i) else f i := by
  induction k with
  | zero => simp [mixA]
  | succ k ih =>
    rw [mixA]
    unfold upd
    by_cases h : i = k
    · subst h; rw [if_pos rfl, ih, if_neg (by omega), if_pos (by omega)]
    · rw [if_neg h, ih]
      by_cases h2 : i < k
      · rw [if_pos h2, if_pos (by omega)]
      · rw [if_neg h2, if_neg (by omega)]

/-- A block of a text. -/
def blk (l : List UInt8) (k : Nat) : List UInt8 := (l.drop (136 * k)).take 136

theorem wordAt_blk (l : List UInt8) (k i : Nat) (h : i < 17) : wordAt (blk l k) (8 * i) = wordAt l (136 * k + 8 * i) := by
  apply BitVec.eq_of_getLsbD_eq
  intro j hj
  rw [wordAt_bit _ _ _ hj, wordAt_bit _ _ _ hj]
  unfold blk
  rw [List.getD_eq_getElem?_getD, List.getD_eq_getElem?_getD, List.getElem?_take, if_pos (by omega), List.getElem?_drop]
  congr 4
  omega

theorem mixA_blk (f : Nat → BitVec 64) (l : List UInt8) (k : Nat) : mixA f l (136 * k) 17 = mixK f (blk l k) 17 := by
  funext i
  rw [mixA_at, mixK_at]
  by_cases h : i < 17
  · rw [if_pos h, if_pos h, wordAt_blk l k i h]
  · rw [if_neg h, if_neg h]

/-- The state behind k blocks. -/
def absK (l : List UInt8) : Nat → Nat → BitVec 64
  | 0 => zf
  | k + 1 => allF (mixK (absK l k) (blk l k) 17)

/-- How many blocks a text has when it is padded. -/
def blocks (s : ByteArray) : Nat := s.size / 136 + 1

/-- A digest. -/
def digT (s : ByteArray) : ByteArray := textT (absK (padT s).data.toList (blocks s)) 4

theorem padT_size (s : ByteArray) : (padT s).size = 136 * blocks s := by
  have h := padL_length s.data.toList
  have hs : s.data.toList.length = s.size := by simp
  rw [hs] at h
  show ((padL s.data.toList).toArray).size = _
  rw [List.size_toArray, h]; rfl

theorem textL_take (f : Nat → BitVec 64) (k j : Nat) : (textL f (k + j)).take (8 * k) = textL f k := by
  induction j with
  | zero => rw [Nat.add_zero, List.take_of_length_le (by rw [textL_length]; exact Nat.le_refl _)]
  | succ j ih =>
    rw [← Nat.add_assoc, textL, List.take_append_of_le_length (by rw [textL_length]; omega), ih]

theorem textT_size (f : Nat → BitVec 64) (n : Nat) : (textT f n).size = 8 * n := by
  show ((textL f n).toArray).size = _
  rw [List.size_toArray, textL_length]

theorem digT_size (s : ByteArray) : (digT s).size = 32 := textT_size _ 4

theorem bytes_ext {a b : ByteArray} (h : a.data.toList = b.data.toList) : a = b := by
  cases a; cases b; congr 1; exact Array.ext' h

theorem extract_list (s : ByteArray) (a b : Nat) : (s.extract a b).data.toList = (s.data.toList.drop a).take (b - a) := by
  simp [ByteArray.data_extract, Array.toList_extract, List.extract]

theorem textT_cut (f : Nat → BitVec 64) : (textT f 25).extract 0 32 = textT f 4 := by
  apply bytes_ext
  rw [extract_list]
  exact textL_take f 4 21

theorem extract_blk (s : ByteArray) (k : Nat) : (s.extract (136 * k) (136 * k + 136)).data.toList = blk s.data.toList k := by
  rw [extract_list]; unfold blk; congr 1; omega

end Go.Proofs.Ytkmelamfohfdkab

/-
  A tree of hashes, as the document tells of it.
-/
namespace Go.Proofs.Ytkmelamfohfdkab

/-- The levels of so many leaves. -/
def lvN (n : Nat) : Nat := if n ≤ 1 then 0 else if n ≤ 2 then 1 else if n ≤ 4 then 2 else if n ≤ 8 then 3 else if n ≤ 16 then 4 else 5
def lvI (n : Int) : Int := if 0 ≤ n ∧ n ≤ 32 then (lvN n.toNat : Int) else -1

theorem lvN_le (n : Nat) : lvN n ≤ 5 := by
  unfold lvN
  repeat' split
  all_goals omega
theorem lvN_pow {n : Nat} (h : n ≤ 32) : n ≤ 2 ^ lvN n := by
  unfold lvN
  repeat' split
  all_goals omega
/-- A smaller number is too small. -/
theorem lvN_least {n k : Nat} (h : k < lvN n) : 2 ^ k < n := by
  unfold lvN at h
  repeat' split at h
  all_goals first
    | omega
    | (have : k = 0 ∨ k = 1 ∨ k = 2 ∨ k = 3 ∨ k = 4 := by omega
       rcases this with rfl | rfl | rfl | rfl | rfl <;> omega)

section
variable {D : ByteArray → ByteArray}

/-- The empty text. -/
def noT : ByteArray := ⟨#[]⟩

/-- The hashes of leaves, as many as a power of two. -/
def hashL (D : ByteArray → ByteArray) (l : List ByteArray) : List ByteArray := l.map D ++ List.replicate (2 ^ lvN l.length - l.length) (D noT)
theorem hashL_length {l : List ByteArray} (h : l.length ≤ 32) : (hashL D l).length = 2 ^ lvN l.length := by
  unfold hashL
  rw [List.length_append, List.length_map, List.length_replicate]
  have := lvN_pow h
  omega
theorem hashL_at (l : List ByteArray) {i : Nat} (h : i < l.length) : (hashL D l).getD i noT = D (l.getD i noT) := by
  unfold hashL
  simp [List.getD_eq_getElem?_getD, List.getElem?_append_left, h]

/-- Two by two. -/
def upL (D : ByteArray → ByteArray) : List ByteArray → List ByteArray
  | a :: b :: r => D (a ++ b) :: upL D r
  | _ => []
theorem upL_length : ∀ l : List ByteArray, (upL D l).length = l.length / 2
  | [] => rfl
  | [_] => by simp [upL]
  | a :: b :: r => by
    show (upL D r).length + 1 = (r.length + 2) / 2
    rw [upL_length r]
    omega
theorem upL_at : ∀ (l : List ByteArray) (j : Nat), 2 * j + 1 < l.length → (upL D l).getD j noT = D (l.getD (2 * j) noT ++ l.getD (2 * j + 1) noT)
  | [], j, h => by simp at h
  | [_], j, h => by simp at h
  | a :: b :: r, 0, _ => rfl
  | a :: b :: r, j + 1, h => by
    show (upL D r).getD j noT = D ((a :: b :: r).getD (2 * j + 2) noT ++ (a :: b :: r).getD (2 * j + 3) noT)
    rw [upL_at r j (by simp at h; omega)]
    rfl

/-- So many levels up. -/
def upN (D : ByteArray → ByteArray) : Nat → List ByteArray → List ByteArray
  | 0, l => l
  | k + 1, l => upN D k (upL D l)
/-- What stands beside a place, level by level. -/
def brL (D : ByteArray → ByteArray) : Nat → List ByteArray → Nat → List ByteArray
  | 0, _, _ => []
  | k + 1, l, i => l.getD (if i % 2 = 1 then i - 1 else i + 1) noT :: brL D k (upL D l) (i / 2)
theorem brL_length : ∀ (k : Nat) (l : List ByteArray) (i : Nat), (brL D k l i).length = k
  | 0, _, _ => rfl
  | k + 1, l, i => by
    show (brL D k (upL D l) (i / 2)).length + 1 = k + 1
    rw [brL_length k]
/-- A leaf's hash with what stands beside it. -/
def foldL (D : ByteArray → ByteArray) : ByteArray → Nat → List ByteArray → ByteArray
  | x, _, [] => x
  | x, i, b :: r => foldL D (if i % 2 = 1 then D (b ++ x) else D (x ++ b)) (i / 2) r

/-- A leaf and what stands beside it make the root. -/
theorem fold_root : ∀ (k : Nat) (l : List ByteArray) (i : Nat), l.length = 2 ^ k → i < 2 ^ k → foldL D (l.getD i noT) i (brL D k l i) = (upN D k l).getD 0 noT
  | 0, l, i, _, hi => by
    have : i = 0 := by simpa using hi
    rw [this]
    rfl
  | k + 1, l, i, hl, hi => by
    rw [Nat.pow_succ] at hl hi
    show foldL D (if i % 2 = 1 then D (l.getD (if i % 2 = 1 then i - 1 else i + 1) noT ++ l.getD i noT) else D (l.getD i noT ++ l.getD (if i % 2 = 1 then i - 1 else i + 1) noT)) (i / 2) (brL D k (upL D l) (i / 2)) = (upN D k (upL D l)).getD 0 noT
    rw [← fold_root k (upL D l) (i / 2) (by rw [upL_length, hl]; omega) (by omega)]
    congr 1
    rw [upL_at l (i / 2) (by omega)]
    by_cases h : i % 2 = 1
    · rw [if_pos h, if_pos h, show 2 * (i / 2) = i - 1 by omega, show i - 1 + 1 = i by omega]
    · rw [if_neg h, if_neg h, show 2 * (i / 2) = i by omega]

/-- The root of leaves, the branch of one, a leaf with its branch: as the functions answer. -/
def rootT (D : ByteArray → ByteArray) (l : List ByteArray) : ByteArray := if l.length ≤ 32 then (upN D (lvN l.length) (hashL D l)).getD 0 noT else noT
def branchT (D : ByteArray → ByteArray) (l : List ByteArray) (i : Int) : List ByteArray := if l.length ≤ 32 ∧ 0 ≤ i ∧ i < l.length then brL D (lvN l.length) (hashL D l) i.toNat else []
def foldT (D : ByteArray → ByteArray) (t : ByteArray) (i : Int) (br : List ByteArray) : ByteArray := if br.length ≤ 5 ∧ 0 ≤ i ∧ i < 2 ^ br.length then foldL D (D t) i.toNat br else noT

theorem fold_branch {l : List ByteArray} (h : l.length ≤ 32) {i : Nat} (hi : i < l.length) : foldT D (l.getD i noT) i (branchT D l i) = rootT D l ∧ (branchT D l i).length = lvN l.length := by
  have hb : branchT D l i = brL D (lvN l.length) (hashL D l) i := if_pos ⟨h, by omega, by omega⟩
  have hl : (brL D (lvN l.length) (hashL D l) i).length = lvN l.length := brL_length _ _ _
  have hp := lvN_pow h
  rw [hb]
  refine ⟨?_, hl⟩
  unfold foldT rootT
  rw [if_pos h, if_pos ⟨by rw [hl]; exact lvN_le _, by omega, by rw [hl]; exact_mod_cast Nat.lt_of_lt_of_le hi hp⟩]
  rw [← fold_root (lvN l.length) (hashL D l) i (hashL_length h) (by omega), hashL_at l hi]
  rfl

theorem fold_size (hD : ∀ x, (D x).size = 32) : ∀ (br : List ByteArray) (i : Nat), ∀ y : ByteArray, y.size = 32 → (foldL D y i br).size = 32
  | [], _, y, hy => hy
  | b :: r, i, y, hy => by
    show (foldL D _ (i / 2) r).size = 32
    exact fold_size hD r (i / 2) _ (by split <;> exact hD _)

/-- The texts that are hashed on the way. -/
def seenL (D : ByteArray → ByteArray) : ByteArray → Nat → List ByteArray → List ByteArray
  | t, _, [] => [t]
  | t, i, b :: r => t :: seenL D (if i % 2 = 1 then b ++ D t else D t ++ b) (i / 2) r
theorem seenL_length : ∀ (br : List ByteArray) (t : ByteArray) (i : Nat), (seenL D t i br).length = br.length + 1
  | [], _, _ => rfl
  | b :: r, t, i => by
    show (seenL D _ (i / 2) r).length + 1 = r.length + 1 + 1
    rw [seenL_length r]

theorem cat_left {a b c : ByteArray} (h : a ++ b = a ++ c) : b = c := by
  have h1 : (a ++ b).data.toList = (a ++ c).data.toList := by rw [h]
  rw [ByteArray.data_append, ByteArray.data_append, Array.toList_append, Array.toList_append] at h1
  exact bytes_ext (List.append_cancel_left h1)
theorem cat_right {a b c : ByteArray} (h : b ++ a = c ++ a) : b = c := by
  have h1 : (b ++ a).data.toList = (c ++ a).data.toList := by rw [h]
  rw [ByteArray.data_append, ByteArray.data_append, Array.toList_append, Array.toList_append] at h1
  exact bytes_ext (List.append_cancel_right h1)

/-- Of two leaves that make one root at one place, they are one, or two unlike texts have one digest. -/
theorem fold_clash : ∀ (br : List ByteArray) (i : Nat) (t u : ByteArray), t ≠ u → foldL D (D t) i br = foldL D (D u) i br →
    ∃ k, k < br.length + 1 ∧ (seenL D t i br).getD k noT ≠ (seenL D u i br).getD k noT ∧ D ((seenL D t i br).getD k noT) = D ((seenL D u i br).getD k noT)
  | [], i, t, u, hne, h => ⟨0, by simp, hne, h⟩
  | b :: r, i, t, u, hne, h => by
    by_cases hd : D t = D u
    · exact ⟨0, by simp, hne, hd⟩
    · have hne2 : (if i % 2 = 1 then b ++ D t else D t ++ b) ≠ (if i % 2 = 1 then b ++ D u else D u ++ b) := by
        by_cases hi : i % 2 = 1
        · rw [if_pos hi, if_pos hi]
          exact fun e => hd (cat_left e)
        · rw [if_neg hi, if_neg hi]
          exact fun e => hd (cat_right e)
      have hf : foldL D (D (if i % 2 = 1 then b ++ D t else D t ++ b)) (i / 2) r = foldL D (D (if i % 2 = 1 then b ++ D u else D u ++ b)) (i / 2) r := by
        have e : ∀ x : ByteArray, (if i % 2 = 1 then D (b ++ x) else D (x ++ b)) = D (if i % 2 = 1 then b ++ x else x ++ b) := fun x => by split <;> rfl
        have h' : foldL D (if i % 2 = 1 then D (b ++ D t) else D (D t ++ b)) (i / 2) r = foldL D (if i % 2 = 1 then D (b ++ D u) else D (D u ++ b)) (i / 2) r := h
        rw [e, e] at h'
        exact h'
      obtain ⟨k, hk, h1, h2⟩ := fold_clash r (i / 2) _ _ hne2 hf
      exact ⟨k + 1, by simp; omega, h1, h2⟩

end
end Go.Proofs.Ytkmelamfohfdkab
