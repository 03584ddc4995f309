/-
  Texts of one's own, joined.
-/
import Derived.Test.YtlaoikpbgbckjaaDoorJoined9
import Derived.Test.YtlaoikpbgbckjaaDoorJoined5

/-
  Plain facts on what comes back from its text: numbers in groups of seven bits; no program in here.
-/
namespace Go.Proofs.YtlaoikpbgbckjaaDoor

theorem split_pow (m P : Nat) : m % 128 * P + m / 128 * (P * 128) = m * P := by
  have e : m / 128 * (P * 128) = 128 * (m / 128) * P := by
    rw [Nat.mul_comm P 128, ← Nat.mul_assoc, Nat.mul_comm (m / 128) 128]
  rw [e, ← Nat.add_mul, Nat.mod_add_div]

theorem rd_var (m : Nat) : ∀ (f k n : Nat) (rest : List UInt8), (varB m).length ≤ f → (k = 0 ∨ m ≠ 0) → n + m * 128 ^ k ≤ 1000000000 → rd f (varB m ++ rest) k n = some (n + m * 128 ^ k, k + (varB m).length) := by
  induction m using Nat.strongRecOn with
  | _ m ih =>
    intro f k n rest hf hk hn
    by_cases h : m ≤ 127
    · rw [varB_low h] at hf ⊢
      obtain ⟨f', rfl⟩ : ∃ f', f = f' + 1 := ⟨f - 1, by simp at hf; omega⟩
      have hm : m % 128 = m := by omega
      have hb : (UInt8.ofNat m).toNat = m := toNat_of (by omega)
      rw [List.singleton_append, rd, hb, hm, if_pos (by omega), if_neg]
      · rfl
      · rintro (x | x)
        · omega
        · omega
    · rw [varB_high h] at hf ⊢
      obtain ⟨f', rfl⟩ : ∃ f', f = f' + 1 := ⟨f - 1, by simp at hf; omega⟩
      have hb : (UInt8.ofNat (m % 128 + 128)).toNat = m % 128 + 128 := toNat_of (by omega)
      have hm : (m % 128 + 128) % 128 = m % 128 := by omega
      have hp := split_pow m (128 ^ k)
      rw [List.cons_append, rd, hb, hm, if_neg (by omega), ih (m / 128) (by omega) f' (k + 1) _ rest (by simp at hf; omega) (.inr (by omega)) (by rw [Nat.pow_succ, Nat.add_assoc, hp]; exact hn)]
      rw [Nat.pow_succ, Nat.add_assoc, hp]
      simp only [List.length_cons]
      congr 2
      omega

theorem varB_short : ∀ (f m : Nat), m < 128 ^ (f + 1) → (varB m).length ≤ f + 1
  | 0, m, h => by rw [varB_low (by omega)]; simp
  | f + 1, m, h => by
    by_cases h7 : m ≤ 127
    · rw [varB_low h7]; simp
    · rw [varB_high h7]
      have := varB_short f (m / 128) (by rw [Nat.pow_succ] at h; omega)
      simp only [List.length_cons]
      omega

theorem varB_five {m : Nat} (h : m ≤ 1000000000) : (varB m).length ≤ 5 := varB_short 4 m (by
  have e : (128 : Nat) ^ (4 + 1) = 34359738368 := by decide
  omega)

theorem rd_back {m : Nat} (h : m ≤ 1000000000) (rest : List UInt8) : rd 5 (varB m ++ rest) 0 0 = some (m, (varB m).length) := by
  have := rd_var m 5 0 0 rest (varB_five h) (.inl rfl) (by simpa using h)
  simpa using this

theorem rd_bound (f : Nat) : ∀ (l : List UInt8) (k n m j : Nat), rd f l k n = some (m, j) → j ≤ k + l.length ∧ m ≤ 1000000000 := by
  induction f with
  | zero => intro l k n m j h; simp [rd] at h
  | succ f ih =>
    intro l k n m j h
    match l, h with
    | [], h => simp [rd] at h
    | b :: r, h =>
      rw [rd] at h
      by_cases hb : b.toNat < 128
      · rw [if_pos hb] at h
        by_cases hc : 1000000000 < n + b.toNat % 128 * 128 ^ k ∨ (b.toNat = 0 ∧ 0 < k)
        · rw [if_pos hc] at h; cases h
        · rw [if_neg hc] at h
          obtain ⟨rfl, rfl⟩ := Prod.mk.inj (Option.some.inj h)
          simp only [List.length_cons]
          refine ⟨by omega, ?_⟩
          have := fun x => hc (.inl x)
          omega
      · rw [if_neg hb] at h
        have := ih r (k + 1) _ m j h
        simp only [List.length_cons]
        omega

theorem rdAt_bound {s : ByteArray} {a n j : Nat} (ha : a ≤ s.size) (h : rdAt s a = some (n, j)) : j ≤ s.size ∧ n ≤ 1000000000 := by
  unfold rdAt at h
  cases hr : rd 5 (s.data.toList.drop a) 0 0 with
  | none => rw [hr] at h; cases h
  | some x =>
    rw [hr] at h
    obtain ⟨m, k⟩ := x
    simp at h
    obtain ⟨rfl, rfl⟩ := h
    have := rd_bound 5 _ _ _ _ _ hr
    simp at this
    have e : s.size = s.data.size := rfl
    omega

/-- What is read is written so, and no other way. -/
theorem rd_canon : ∀ (f : Nat) (l : List UInt8) (k n m j : Nat), rd f l k n = some (m, j) → ∃ (pre : List UInt8) (c : UInt8) (r : List UInt8), l = pre ++ [c] ++ r ∧ (∀ b ∈ pre, 128 ≤ b.toNat) ∧ c.toNat < 128 ∧ ¬ (c.toNat = 0 ∧ (0 < k ∨ pre ≠ [])) ∧ j = k + (pre.length + 1) ∧ m = n + acc (pre ++ [c]) * 128 ^ k
  | 0, _, _, _, _, _, h => by cases h
  | f + 1, [], _, _, _, _, h => by cases h
  | f + 1, b :: r, k, n, m, j, h => by
    rw [rd] at h
    by_cases hb : b.toNat < 128
    · rw [if_pos hb] at h
      by_cases hc : 1000000000 < n + b.toNat % 128 * 128 ^ k ∨ (b.toNat = 0 ∧ 0 < k)
      · rw [if_pos hc] at h; cases h
      · rw [if_neg hc] at h
        injection h with h
        injection h with h1 h2
        refine ⟨[], b, r, rfl, (fun x hx => by cases hx), hb, ?_, by simp [h2], ?_⟩
        · rintro ⟨h3, h4⟩
          rcases h4 with h4 | h4
          · exact hc (.inr ⟨h3, h4⟩)
          · exact h4 rfl
        · rw [← h1]
          simp [acc]
    · rw [if_neg hb] at h
      obtain ⟨pre, c, r', h1, h2, h3, h4, h5, h6⟩ := rd_canon f r (k + 1) _ m j h
      refine ⟨b :: pre, c, r', by rw [h1]; rfl, ?_, h3, ?_, by rw [h5, List.length_cons]; omega, ?_⟩
      · intro x hx
        rcases List.mem_cons.1 hx with e | e
        · rw [e]; omega
        · exact h2 x e
      · rintro ⟨h7, _⟩
        exact h4 ⟨h7, .inl (by omega)⟩
      · rw [h6]
        show n + b.toNat % 128 * 128 ^ k + acc (pre ++ [c]) * 128 ^ (k + 1) = n + acc (b :: (pre ++ [c])) * 128 ^ k
        rw [show acc (b :: (pre ++ [c])) = b.toNat % 128 + 128 * acc (pre ++ [c]) from rfl, Nat.pow_succ, Nat.add_mul, Nat.add_assoc, Nat.mul_comm (128 ^ k) 128, ← Nat.mul_assoc, Nat.mul_comm (acc (pre ++ [c])) 128]

theorem rdAt_canon {s : ByteArray} {n j : Nat} (h : rdAt s 0 = some (n, j)) : s.data.toList.take j = varB n := by
  unfold rdAt at h
  rw [List.drop_zero] at h
  cases hr : rd 5 s.data.toList 0 0 with
  | none => rw [hr] at h; cases h
  | some x =>
    rw [hr] at h
    obtain ⟨m, q⟩ := x
    simp at h
    obtain ⟨rfl, rfl⟩ := h
    obtain ⟨pre, c, r, h1, h2, h3, h4, h5, h6⟩ := rd_canon 5 _ 0 0 m q hr
    have e : m = acc (pre ++ [c]) := by rw [h6]; simp
    rw [e, varB_acc h2 h3 (fun h => h4 ⟨h.1, .inr h.2⟩), h1, h5]
    rw [List.take_append_of_le_length (by simp), List.take_of_length_le (by simp)]

end Go.Proofs.YtlaoikpbgbckjaaDoor

/-
  A tree of hashes, as the document tells of it.
-/
namespace Go.Proofs.YtlaoikpbgbckjaaDoor

/-- The levels of so many leaves. -/
def lvN (n : Nat) : Nat := if n ≤ 1 then 0 else if n ≤ 2 then 1 else if n ≤ 4 then 2 else if n ≤ 8 then 3 else if n ≤ 16 then 4 else 5
def lvI (n : Int) : Int := if 0 ≤ n ∧ n ≤ 32 then (lvN n.toNat : Int) else -1

theorem lvN_le (n : Nat) : lvN n ≤ 5 := by
  unfold lvN
  repeat' split
  all_goals omega
theorem lvN_pow {n : Nat} (h : n ≤ 32) : n ≤ 2 ^ lvN n := by
  unfold lvN
  repeat' split
  all_goals omega
/-- A smaller number is too small. -/
theorem lvN_least {n k : Nat} (h : k < lvN n) : 2 ^ k < n := by
  unfold lvN at h
  repeat' split at h
  all_goals first
    | omega
    | (have : k = 0 ∨ k = 1 ∨ k = 2 ∨ k = 3 ∨ k = 4 := by omega
       rcases this with rfl | rfl | rfl | rfl | rfl <;> omega)

section
variable {D : ByteArray → ByteArray}

/-- The empty text. -/
def noT : ByteArray := ⟨#[]⟩

/-- The hashes of leaves, as many as a power of two. -/
def hashL (D : ByteArray → ByteArray) (l : List ByteArray) : List ByteArray := l.map D ++ List.replicate (2 ^ lvN l.length - l.length) (D noT)
theorem hashL_length {l : List ByteArray} (h : l.length ≤ 32) : (hashL D l).length = 2 ^ lvN l.length := by
  unfold hashL
  rw [List.length_append, List.length_map, List.length_replicate]
  have := lvN_pow h
  omega
theorem hashL_at (l : List ByteArray) {i : Nat} (h : i < l.length) : (hashL D l).getD i noT = D (l.getD i noT) := by
  unfold hashL
  simp [List.getD_eq_getElem?_getD, List.getElem?_append_left, h]

/-- Two by two. -/
def upL (D : ByteArray → ByteArray) : List ByteArray → List ByteArray
  | a :: b :: r => D (a ++ b) :: upL D r
  | _ => []
theorem upL_length : ∀ l : List ByteArray, (upL D l).length = l.length / 2
  | [] => rfl
  | [_] => by simp [upL]
  | a :: b :: r => by
    show (upL D r).length + 1 = (r.length + 2) / 2
    rw [upL_length r]
    omega
theorem upL_at : ∀ (l : List ByteArray) (j : Nat), 2 * j + 1 < l.length → (upL D l).getD j noT = D (l.getD (2 * j) noT ++ l.getD (2 * j + 1) noT)
  | [], j, h => by simp at h
  | [_], j, h => by simp at h
  | a :: b :: r, 0, _ => rfl
  | a :: b :: r, j + 1, h => by
    show (upL D r).getD j noT = D ((a :: b :: r).getD (2 * j + 2) noT ++ (a :: b :: r).getD (2 * j + 3) noT)
    rw [upL_at r j (by simp at h; omega)]
    rfl

/-- So many levels up. -/
def upN (D : ByteArray → ByteArray) : Nat → List ByteArray → List ByteArray
  | 0, l => l
  | k + 1, l => upN D k (upL D l)
/-- What stands beside a place, level by level. -/
def brL (D : ByteArray → ByteArray) : Nat → List ByteArray → Nat → List ByteArray
  | 0, _, _ => []
  | k + 1, l, i => l.getD (if i % 2 = 1 then i - 1 else i + 1) noT :: brL D k (upL D l) (i / 2)
theorem brL_length : ∀ (k : Nat) (l : List ByteArray) (i : Nat), (brL D k l i).length = k
  | 0, _, _ => rfl
  | k + 1, l, i => by
    show (brL D k (upL D l) (i / 2)).length + 1 = k + 1
    rw [brL_length k]
/-- A leaf's hash with what stands beside it. -/
def foldL (D : ByteArray → ByteArray) : ByteArray → Nat → List ByteArray → ByteArray
  | x, _, [] => x
  | x, i, b :: r => foldL D (if i % 2 = 1 then D (b ++ x) else D (x ++ b)) (i / 2) r

/-- A leaf and what stands beside it make the root. -/
theorem fold_root : ∀ (k : Nat) (l : List ByteArray) (i : Nat), l.length = 2 ^ k → i < 2 ^ k → foldL D (l.getD i noT) i (brL D k l i) = (upN D k l).getD 0 noT
  | 0, l, i, _, hi => by
    have : i = 0 := by simpa using hi
    rw [this]
    rfl
  | k + 1, l, i, hl, hi => by
    rw [Nat.pow_succ] at hl hi
    show foldL D (if i % 2 = 1 then D (l.getD (if i % 2 = 1 then i - 1 else i + 1) noT ++ l.getD i noT) else D (l.getD i noT ++ l.getD (if i % 2 = 1 then i - 1 else i + 1) noT)) (i / 2) (brL D k (upL D l) (i / 2)) = (upN D k (upL D l)).getD 0 noT
    rw [← fold_root k (upL D l) (i / 2) (by rw [upL_length, hl]; omega) (by omega)]
    congr 1
    rw [upL_at l (i / 2) (by omega)]
    by_cases h : i % 2 = 1
    · rw [if_pos h, if_pos h, show 2 * (i / 2) = i - 1 by omega, show i - 1 + 1 = i by omega]
    · rw [if_neg h, if_neg h, show 2 * (i / 2) = i by omega]

/-- The root of leaves, the branch of one, a leaf with its branch: as the functions answer. -/
def rootT (D : ByteArray → ByteArray) (l : List ByteArray) : ByteArray := if l.length ≤ 32 then (upN D (lvN l.length) (hashL D l)).getD 0 noT else noT
def branchT (D : ByteArray → ByteArray) (l : List ByteArray) (i : Int) : List ByteArray := if l.length ≤ 32 ∧ 0 ≤ i ∧ i < l.length then brL D (lvN l.length) (hashL D l) i.toNat else []
def foldT (D : ByteArray → ByteArray) (t : ByteArray) (i : Int) (br : List ByteArray) : ByteArray := if br.length ≤ 5 ∧ 0 ≤ i ∧ i < 2 ^ br.length then foldL D (D t) i.toNat br else noT

theorem fold_branch {l : List ByteArray} (h : l.length ≤ 32) {i : Nat} (hi : i < l.length) : foldT D (l.getD i noT) i (branchT D l i) = rootT D l ∧ (branchT D l i).length = lvN l.length := by
  have hb : branchT D l i = brL D (lvN l.length) (hashL D l) i := if_pos ⟨h, by omega, by omega⟩
  have hl : (brL D (lvN l.length) (hashL D l) i).length = lvN l.length := brL_length _ _ _
  have hp := lvN_pow h
  rw [hb]
  refine ⟨?_, hl⟩
  unfold foldT rootT
  rw [if_pos h, if_pos ⟨by rw [hl]; exact lvN_le _, by omega, by rw [hl]; exact_mod_cast Nat.lt_of_lt_of_le hi hp⟩]
  rw [← fold_root (lvN l.length) (hashL D l) i (hashL_length h) (by omega), hashL_at l hi]
  rfl

theorem fold_size (hD : ∀ x, (D x).size = 32) : ∀ (br : List ByteArray) (i : Nat), ∀ y : ByteArray, y.size = 32 → (foldL D y i br).size = 32
  | [], _, y, hy => hy
  | b :: r, i, y, hy => by
    show (foldL D _ (i / 2) r).size = 32
    exact fold_size hD r (i / 2) _ (by split <;> exact hD _)

/-- The texts that are hashed on the way. -/
def seenL (D : ByteArray → ByteArray) : ByteArray → Nat → List ByteArray → List ByteArray
  | t, _, [] => [t]
  | t, i, b :: r => t :: seenL D (if i % 2 = 1 then b ++ D t else D t ++ b) (i / 2) r
theorem seenL_length : ∀ (br : List ByteArray) (t : ByteArray) (i : Nat), (seenL D t i br).length = br.length + 1
  | [], _, _ => rfl
  | b :: r, t, i => by
    show (seenL D _ (i / 2) r).length + 1 = r.length + 1 + 1
    rw [seenL_length r]

theorem cat_left {a b c : ByteArray} (h : a ++ b = a ++ c) : b = c := by
  have h1 : (a ++ b).data.toList = (a ++ c).data.toList := by rw [h]
  rw [ByteArray.data_append, ByteArray.data_append, Array.toList_append, Array.toList_append] at h1
  exact bytes_ext (List.append_cancel_left h1)
theorem cat_right {a b c : ByteArray} (h : b ++ a = c ++ a) : b = c := by
  have h1 : (b ++ a).data.toList = (c ++ a).data.toList := by rw [h]
  rw [ByteArray.data_append, ByteArray.data_append, Array.toList_append, Array.toList_append] at h1
  exact bytes_ext (List.append_cancel_right h1)

/-- Of two leaves that make one root at one place, they are one, or two unlike texts have one digest. -/
theorem fold_clash : ∀ (br : List ByteArray) (i : Nat) (t u : ByteArray), t ≠ u → foldL D (D t) i br = foldL D (D u) i br →
    ∃ k, k < br.length + 1 ∧ (seenL D t i br).getD k noT ≠ (seenL D u i br).getD k noT ∧ D ((seenL D t i br).getD k noT) = D ((seenL D u i br).getD k noT)
  | [], i, t, u, hne, h => ⟨0, by simp, hne, h⟩
  | b :: r, i, t, u, hne, h => by
    by_cases hd : D t = D u
    · exact ⟨0, by simp, hne, hd⟩
    · have hne2 : (if i % 2 = 1 then b ++ D t else D t ++ b) ≠ (if i % 2 = 1 then b ++ D u else D u ++ b) := by
        by_cases hi : i % 2 = 1
        · rw [if_pos hi, if_pos hi]
          exact fun e => hd (cat_left e)
        · rw [if_neg hi, if_neg hi]
          exact fun e => hd (cat_right e)
      have hf : foldL D (D (if i % 2 = 1 then b ++ D t else D t ++ b)) (i / 2) r = foldL D (D (if i % 2 = 1 then b ++ D u else D u ++ b)) (i / 2) r := by
        have e : ∀ x : ByteArray, (if i % 2 = 1 then D (b ++ x) else D (x ++ b)) = D (if i % 2 = 1 then b ++ x else x ++ b) := fun x => by split <;> rfl
        have h' : foldL D (if i % 2 = 1 then D (b ++ D t) else D (D t ++ b)) (i / 2) r = foldL D (if i % 2 = 1 then D (b ++ D u) else D (D u ++ b)) (i / 2) r := h
        rw [e, e] at h'
        exact h'
      obtain ⟨k, hk, h1, h2⟩ := fold_clash r (i / 2) _ _ hne2 hf
      exact ⟨k + 1, by simp; omega, h1, h2⟩

end
end Go.Proofs.YtlaoikpbgbckjaaDoor

/-
  Heads as the document tells of them: no program in here.
-/
namespace Go.Proofs.YtlaoikpbgbckjaaDoor

/-- A head: its slot, its parent, its state, its body. -/
abbrev Hd : Type := Int × ByteArray × ByteArray × ByteArray
def hZ : Hd := (0, noT, noT, noT)
def hOkB (h : Hd) : Bool := decide (0 ≤ h.1 ∧ h.1 ≤ 10000) && decide (h.2.1.size = 32) && decide (h.2.2.1.size = 32) && decide (h.2.2.2.size = 32)
theorem hok_iff {h : Hd} : hOkB h = true ↔ (0 ≤ h.1 ∧ h.1 ≤ 10000) ∧ h.2.1.size = 32 ∧ h.2.2.1.size = 32 ∧ h.2.2.2.size = 32 := by
  unfold hOkB
  simp only [Bool.and_eq_true, decide_eq_true_eq]
  constructor
  · rintro ⟨⟨⟨a, b⟩, c⟩, d⟩; exact ⟨a, b, c, d⟩
  · rintro ⟨a, b, c, d⟩; exact ⟨⟨⟨a, b⟩, c⟩, d⟩

/-- A number, written in bytes. -/
def vT (n : Int) : ByteArray := ⟨(varB n.toNat).toArray⟩
def hTxt (h : Hd) : ByteArray := vT h.1 ++ h.2.1 ++ h.2.2.1 ++ h.2.2.2
def hTextV (h : Hd) : ByteArray × Bool := if hOkB h = true then (hTxt h, true) else (noT, false)

/-- The four parts of a text behind its number. -/
def hCut (t : ByteArray) (n j : Nat) : Hd := ((n : Int), t.extract j (j + 32), t.extract (j + 32) (j + 64), t.extract (j + 64) t.size)
def rdHead (t : ByteArray) : Hd × Bool := match rdAt t 0 with
  | none => (hZ, false)
  | some (n, j) => if t.size = j + 96 then (if hOkB (hCut t n j) = true then (hCut t n j, true) else (hZ, false)) else (hZ, false)

theorem bytes_cat (a b : ByteArray) : (a ++ b).data.toList = a.data.toList ++ b.data.toList := by rw [ByteArray.data_append, Array.toList_append]
theorem bytes_size (a : ByteArray) : a.data.toList.length = a.size := Array.length_toList
theorem vT_list (n : Nat) : (vT (n : Int)).data.toList = varB n := by simp [vT]
theorem vT_size (n : Nat) : (vT (n : Int)).size = (varB n).length := by rw [← bytes_size, vT_list]

theorem ext_parts (p a b c : ByteArray) : (p ++ a ++ b ++ c).extract p.size (p.size + a.size) = a ∧ (p ++ a ++ b ++ c).extract (p.size + a.size) (p.size + a.size + b.size) = b ∧ (p ++ a ++ b ++ c).extract (p.size + a.size + b.size) (p ++ a ++ b ++ c).size = c := by
  refine ⟨?_, ?_, ?_⟩
  all_goals apply bytes_ext
  all_goals rw [extract_list, bytes_cat, bytes_cat, bytes_cat]
  · rw [List.append_assoc, List.append_assoc, List.drop_append_of_le_length (by rw [bytes_size]; omega), List.drop_of_length_le (by rw [bytes_size]; omega), List.nil_append, List.take_append_of_le_length (by rw [bytes_size]; omega), List.take_of_length_le (by rw [bytes_size]; omega)]
  · rw [List.append_assoc, List.drop_append_of_le_length (by rw [List.length_append, bytes_size, bytes_size]; omega), List.drop_of_length_le (by rw [List.length_append, bytes_size, bytes_size]; omega), List.nil_append, List.take_append_of_le_length (by rw [bytes_size]; omega), List.take_of_length_le (by rw [bytes_size]; omega)]
  · rw [List.drop_append_of_le_length (by rw [List.length_append, List.length_append, bytes_size, bytes_size, bytes_size]; omega), List.drop_of_length_le (by rw [List.length_append, List.length_append, bytes_size, bytes_size, bytes_size]; omega), List.nil_append, List.take_of_length_le (by rw [bytes_size, ByteArray.size_append, ByteArray.size_append, ByteArray.size_append]; omega)]

/-- A right head comes back from its text. -/
theorem head_back {h : Hd} (hk : hOkB h = true) : rdHead (hTxt h) = (h, true) := by
  obtain ⟨s, a, b, c⟩ := h
  obtain ⟨hs, ha, hb, hc⟩ := hok_iff.1 hk
  simp only at hs ha hb hc
  obtain ⟨n, rfl⟩ : ∃ n : Nat, s = (n : Int) := ⟨s.toNat, by omega⟩
  have hr : rdAt (hTxt ((n : Int), a, b, c)) 0 = some (n, (vT (n : Int)).size) := by
    unfold rdAt
    rw [List.drop_zero]
    show (rd 5 (vT (n : Int) ++ a ++ b ++ c).data.toList 0 0).map _ = _
    rw [bytes_cat, bytes_cat, bytes_cat, vT_list, List.append_assoc, List.append_assoc, rd_back (by omega), vT_size]
    simp
  obtain ⟨e1, e2, e3⟩ := ext_parts (vT (n : Int)) a b c
  have hcut : hCut (hTxt ((n : Int), a, b, c)) n (vT (n : Int)).size = ((n : Int), a, b, c) := by
    unfold hCut hTxt
    simp only
    rw [ha] at e1 e2 e3
    rw [hb] at e2 e3
    rw [Nat.add_assoc _ 32 32] at e2 e3
    rw [e1, e2, e3]
  unfold rdHead
  rw [hr]
  simp only
  rw [hcut, if_pos hk, if_pos]
  unfold hTxt
  rw [ByteArray.size_append, ByteArray.size_append, ByteArray.size_append, ha, hb, hc]

/-- What is read is its text. -/
theorem head_text {t : ByteArray} {h : Hd} (hr : rdHead t = (h, true)) : hOkB h = true ∧ hTxt h = t := by
  unfold rdHead at hr
  cases hx : rdAt t 0 with
  | none => rw [hx] at hr; cases hr
  | some x =>
    obtain ⟨n, j⟩ := x
    rw [hx] at hr
    simp only at hr
    by_cases h1 : t.size = j + 96
    · rw [if_pos h1] at hr
      by_cases h2 : hOkB (hCut t n j) = true
      · rw [if_pos h2] at hr
        injection hr with hr
        rw [← hr]
        refine ⟨h2, ?_⟩
        have hc := rdAt_canon hx
        apply bytes_ext
        unfold hTxt hCut
        simp only
        rw [bytes_cat, bytes_cat, bytes_cat, vT_list, ← hc, extract_list, extract_list, extract_list]
        rw [show j + 32 - j = 32 by omega, show j + 64 - (j + 32) = 32 by omega, show t.size - (j + 64) = 32 by omega]
        have hl : t.data.toList.length = j + 96 := by rw [bytes_size, h1]
        rw [show t.data.toList.drop (j + 64) = (t.data.toList.drop j).drop 64 by rw [List.drop_drop], show t.data.toList.drop (j + 32) = (t.data.toList.drop j).drop 32 by rw [List.drop_drop]]
        conv => rhs; rw [← List.take_append_drop j t.data.toList]
        rw [List.append_assoc, List.append_assoc]
        congr 1
        have hd : (t.data.toList.drop j).length = 96 := by rw [List.length_drop, hl]; omega
        generalize t.data.toList.drop j = d at hd
        conv => rhs; rw [← List.take_append_drop 32 d]
        congr 1
        conv => rhs; rw [← List.take_append_drop 32 (d.drop 32), List.drop_drop]
        congr 1
        rw [List.take_of_length_le (by rw [List.length_drop, hd]; omega)]
      · rw [if_neg h2] at hr; cases hr
    · rw [if_neg h1] at hr; cases hr

end Go.Proofs.YtlaoikpbgbckjaaDoor
