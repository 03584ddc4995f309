/-
  Texts of one's own, joined.
-/
import Derived.Test.YtlaoikpbgbckjaaDoorJoined4
import Derived.Test.YtlaoikpbgbckjaaDoorJoined8
import Derived.Test.YtlaoikpbgbckjaaDoorPad
import Derived.Test.YtlaoikpbgbckjaaDoorJoined3

/-
  A digest: plain mathematics.
-/
namespace Go.Proofs.YtlaoikpbgbckjaaDoor

/-- Words of a text from a place on, put to a state. -/
def mixA (f : Nat → BitVec 64) (l : List UInt8) (a : Nat) : Nat → Nat → BitVec 64
  | 0 => f
  | k + 1 => upd (mixA f l a k) k (mixA f l a k k ^^^ wordAt l (a + 8 * k))

theorem mixA_at (f : Nat → BitVec 64) (l : List UInt8) (a k i : Nat) : mixA f l a k i = if i < k then f i ^^^ wordAt l (a + 8 * i) else f i := by
  induction k with
  | zero => simp [mixA]
  | succ k ih =>
    rw [mixA]
    unfold upd
    by_cases h : i = k
    · subst h; rw [if_pos rfl, ih, if_neg (by omega), if_pos (by omega)]
    · rw [if_neg h, ih]
      by_cases h2 : i < k
      · rw [if_pos h2, if_pos (by omega)]
      · rw [if_neg h2, if_neg (by omega)]

/-- A block of a text. -/
def blk (l : List UInt8) (k : Nat) : List UInt8 := (l.drop (136 * k)).take 136

theorem wordAt_blk (l : List UInt8) (k i : Nat) (h : i < 17) : wordAt (blk l k) (8 * i) = wordAt l (136 * k + 8 * i) := by
  apply BitVec.eq_of_getLsbD_eq
  intro j hj
  rw [wordAt_bit _ _ _ hj, wordAt_bit _ _ _ hj]
  unfold blk
  rw [List.getD_eq_getElem?_getD, List.getD_eq_getElem?_getD, List.getElem?_take, if_pos (by omega), List.getElem?_drop]
  congr 4
  omega

theorem mixA_blk (f : Nat → BitVec 64) (l : List UInt8) (k : Nat) : mixA f l (136 * k) 17 = mixK f (blk l k) 17 := by
  funext i
  rw [mixA_at, mixK_at]
  by_cases h : i < 17
  · rw [if_pos h, if_pos h, wordAt_blk l k i h]
  · rw [if_neg h, if_neg h]

/-- The state behind k blocks. -/
def absK (l : List UInt8) : Nat → Nat → BitVec 64
  | 0 => zf
  | k + 1 => allF (mixK (absK l k) (blk l k) 17)

/-- How many blocks a text has when it is padded. -/
def blocks (s : ByteArray) : Nat := s.size / 136 + 1

/-- A digest. -/
def digT (s : ByteArray) : ByteArray := textT (absK (padT s).data.toList (blocks s)) 4

theorem padT_size (s : ByteArray) : (padT s).size = 136 * blocks s := by
  have h := padL_length s.data.toList
  have hs : s.data.toList.length = s.size := by simp
  rw [hs] at h
  show ((padL s.data.toList).toArray).size = _
  rw [List.size_toArray, h]; rfl

theorem textL_take (f : Nat → BitVec 64) (k j : Nat) : (textL f (k + j)).take (8 * k) = textL f k := by
  induction j with
  | zero => rw [Nat.add_zero, List.take_of_length_le (by rw [textL_length]; exact Nat.le_refl _)]
  | succ j ih =>
    rw [← Nat.add_assoc, textL, List.take_append_of_le_length (by rw [textL_length]; omega), ih]

theorem textT_size (f : Nat → BitVec 64) (n : Nat) : (textT f n).size = 8 * n := by
  show ((textL f n).toArray).size = _
  rw [List.size_toArray, textL_length]

theorem digT_size (s : ByteArray) : (digT s).size = 32 := textT_size _ 4

theorem bytes_ext {a b : ByteArray} (h : a.data.toList = b.data.toList) : a = b := by
  cases a; cases b; congr 1; exact Array.ext' h

theorem extract_list (s : ByteArray) (a b : Nat) : (s.extract a b).data.toList = (s.data.toList.drop a).take (b - a) := by
  simp [ByteArray.data_extract, Array.toList_extract, List.extract]

theorem textT_cut (f : Nat → BitVec 64) : (textT f 25).extract 0 32 = textT f 4 := by
  apply bytes_ext
  rw [extract_list]
  exact textL_take f 4 21

theorem extract_blk (s : ByteArray) (k : Nat) : (s.extract (136 * k) (136 * k + 136)).data.toList = blk s.data.toList k := by
  rw [extract_list]; unfold blk; congr 1; omega

end Go.Proofs.YtlaoikpbgbckjaaDoor

/-
  Plain facts on reading a number in groups of seven bits: no program in here.
-/
namespace Go.Proofs.YtlaoikpbgbckjaaDoor

/-- At most 'f' bytes more of a number of which 'k' bytes, worth 'n', are behind. -/
def rd : Nat → List UInt8 → Nat → Nat → Option (Nat × Nat)
  | 0, _, _, _ => none
  | _ + 1, [], _, _ => none
  | f + 1, b :: r, k, n =>
    if b.toNat < 128 then (if 1000000000 < n + b.toNat % 128 * 128 ^ k ∨ (b.toNat = 0 ∧ 0 < k) then none else some (n + b.toNat % 128 * 128 ^ k, k + 1))
    else rd f r (k + 1) (n + b.toNat % 128 * 128 ^ k)

def rdAt (s : ByteArray) (a : Nat) : Option (Nat × Nat) := (rd 5 (s.data.toList.drop a) 0 0).map fun x => (x.1, a + x.2)

def ret3 : Option (Nat × Nat) → Value
  | none => .tuple #[.int .i64 0, .int .i64 0, .bool false]
  | some x => .tuple #[.int .i64 (x.1 : Int), .int .i64 (x.2 : Int), .bool true]

/-- What is so at the head of a round: the place is i, the number so far n, its next weight c. -/
structure RdInv (s : ByteArray) (a i n c : Nat) : Prop where
  lo : a ≤ i
  hi : i ≤ s.size
  five : i ≤ a + 5
  w : c = 128 ^ (i - a)
  small : n < c
  eq : rd 5 (s.data.toList.drop a) 0 0 = rd (5 - (i - a)) (s.data.toList.drop i) (i - a) n

theorem RdInv.start {s : ByteArray} {a : Nat} (h : a ≤ s.size) : RdInv s a a 0 1 := ⟨Nat.le_refl _, h, by omega, by simp, by omega, by simp⟩

theorem RdInv.weight {s : ByteArray} {a i n c : Nat} (h : RdInv s a i n c) : 0 < c ∧ c ≤ 34359738368 ∧ (i < a + 5 → c ≤ 268435456) ∧ (¬ i < a + 5 → 1000000000 < c) := by
  obtain ⟨h1, h2, h3, rfl, h5, h6⟩ := h
  obtain ⟨k, rfl⟩ : ∃ k, i = a + k := ⟨i - a, by omega⟩
  have hk : k ≤ 5 := by omega
  simp only [Nat.add_sub_cancel_left]
  match k, hk with
  | 0, _ => simp
  | 1, _ => simp
  | 2, _ => simp
  | 3, _ => simp
  | 4, _ => simp
  | 5, _ => simp

theorem drop_at (s : ByteArray) (i : Nat) (h : i < s.size) : s.data.toList.drop i = s[i] :: s.data.toList.drop (i + 1) := by
  rw [List.drop_eq_getElem_cons (by simpa using h)]; rfl

theorem RdInv.unfold {s : ByteArray} {a i n c : Nat} (h : RdInv s a i n c) (hi : i < s.size) (h5 : i < a + 5) :
    rd 5 (s.data.toList.drop a) 0 0 = (if s[i].toNat < 128 then (if 1000000000 < n + s[i].toNat % 128 * c ∨ (s[i].toNat = 0 ∧ 0 < i - a) then none else some (n + s[i].toNat % 128 * c, i - a + 1))
      else rd (5 - (i + 1 - a)) (s.data.toList.drop (i + 1)) (i + 1 - a) (n + s[i].toNat % 128 * c)) := by
  rw [h.eq, drop_at s i hi]
  have e1 : 5 - (i - a) = (5 - (i + 1 - a)) + 1 := by have := h.lo; omega
  have e2 : i + 1 - a = i - a + 1 := by have := h.lo; omega
  rw [e1, rd, h.w, e2]

theorem RdInv.prod {s : ByteArray} {a i n c : Nat} (h : RdInv s a i n c) (x : Nat) (hx : x < 128) : x * c ≤ 127 * c ∧ n + x * c < 128 * c := by
  have h1 : x * c ≤ 127 * c := Nat.mul_le_mul_right c (by omega)
  have := h.small
  exact ⟨h1, by omega⟩

theorem RdInv.next {s : ByteArray} {a i n c : Nat} (h : RdInv s a i n c) (hi : i < s.size) (h5 : i < a + 5) (hb : ¬ s[i].toNat < 128) : RdInv s a (i + 1) (n + s[i].toNat % 128 * c) (c * 128) := by
  have hp := h.prod (s[i].toNat % 128) (by omega)
  refine ⟨by have := h.lo; omega, hi, by omega, ?_, by omega, ?_⟩
  · have e2 : i + 1 - a = i - a + 1 := by have := h.lo; omega
    rw [e2, Nat.pow_succ, h.w]
  · rw [h.unfold hi h5, if_neg hb]

theorem RdInv.out {s : ByteArray} {a i n c : Nat} (h : RdInv s a i n c) (hi : ¬ (i < s.size ∧ i < a + 5)) : rdAt s a = none := by
  rw [rdAt, h.eq]
  by_cases h5 : i < a + 5
  · have : s.size ≤ i := by omega
    rw [List.drop_eq_nil_of_le (by simpa using this)]
    obtain ⟨f, hf⟩ : ∃ f, 5 - (i - a) = f + 1 := ⟨5 - (i - a) - 1, by have := h.lo; omega⟩
    rw [hf]; rfl
  · have : 5 - (i - a) = 0 := by omega
    rw [this]; rfl

theorem RdInv.bad {s : ByteArray} {a i n c : Nat} (h : RdInv s a i n c) (hi : i < s.size) (h5 : i < a + 5) (hb : s[i].toNat < 128) (hx : 1000000000 < n + s[i].toNat % 128 * c ∨ (s[i].toNat = 0 ∧ a < i)) : rdAt s a = none := by
  rw [rdAt, h.unfold hi h5, if_pos hb, if_pos (hx.imp_right fun x => ⟨x.1, by omega⟩)]; rfl

theorem RdInv.good {s : ByteArray} {a i n c : Nat} (h : RdInv s a i n c) (hi : i < s.size) (h5 : i < a + 5) (hb : s[i].toNat < 128) (h1 : ¬ 1000000000 < n + s[i].toNat % 128 * c) (h2 : ¬ (s[i].toNat = 0 ∧ a < i)) : rdAt s a = some (n + s[i].toNat % 128 * c, i + 1) := by
  rw [rdAt, h.unfold hi h5, if_pos hb, if_neg (by rintro (x | x); exact h1 x; exact h2 ⟨x.1, by omega⟩)]
  simp only [Option.map_some]
  congr 2
  have := h.lo
  omega

/-- What bytes are worth together. -/
def acc : List UInt8 → Nat
  | [] => 0
  | b :: r => b.toNat % 128 + 128 * acc r

theorem acc_snoc (l : List UInt8) (b : UInt8) : acc (l ++ [b]) = acc l + b.toNat % 128 * 128 ^ l.length := by
  induction l with
  | nil => simp [acc]
  | cons x r ih =>
    simp only [List.cons_append, acc, ih, List.length_cons, Nat.pow_succ, Nat.mul_add]
    have : 128 * (b.toNat % 128 * 128 ^ r.length) = b.toNat % 128 * (128 ^ r.length * 128) := by
      rw [Nat.mul_comm 128, Nat.mul_assoc]
    omega

theorem acc_pos {l : List UInt8} {c : UInt8} (hc : 0 < c.toNat) (hc' : c.toNat < 128) : 0 < acc (l ++ [c]) := by
  induction l with
  | nil => simp [acc]; omega
  | cons x r ih => simp only [List.cons_append, acc]; omega

theorem byte_back {b : UInt8} (h : 128 ≤ b.toNat) : UInt8.ofNat (b.toNat % 128 + 128) = b := by
  apply UInt8.toNat_inj.1
  rw [toNat_of (by omega)]
  have := b.toNat_lt
  omega

theorem varB_acc {l : List UInt8} (hl : ∀ b ∈ l, 128 ≤ b.toNat) {c : UInt8} (hc : c.toNat < 128) (h : ¬ (c.toNat = 0 ∧ l ≠ [])) : varB (acc (l ++ [c])) = l ++ [c] := by
  induction l with
  | nil =>
    have e : acc ([] ++ [c]) = c.toNat := by simp [acc]; omega
    rw [e, varB_low (by omega)]
    simp
  | cons x r ih =>
    have hc0 : 0 < c.toNat := by
      rcases Nat.eq_zero_or_pos c.toNat with z | z
      · exact absurd ⟨z, by simp⟩ h
      · exact z
    have hp := acc_pos (l := r) hc0 hc
    have hx := hl x (by simp)
    have ih' := ih (fun b hb => hl b (by simp [hb])) (by omega)
    simp only [List.cons_append, acc]
    rw [varB_high (by omega)]
    have e1 : (x.toNat % 128 + 128 * acc (r ++ [c])) % 128 = x.toNat % 128 := by omega
    have e2 : (x.toNat % 128 + 128 * acc (r ++ [c])) / 128 = acc (r ++ [c]) := by omega
    rw [e1, e2, ih', byte_back hx]

theorem varB_ends {n : Nat} {l : List UInt8} {c : UInt8} (h : varB n = l ++ [c]) (hc : c.toNat = 0) : n = 0 := by
  induction n using Nat.strongRecOn generalizing l with
  | _ n ih =>
    by_cases h7 : n ≤ 127
    · rw [varB_low h7] at h
      match l, h with
      | [], h =>
        simp at h
        rw [← h, toNat_of (by omega)] at hc
        exact hc
      | x :: r, h => simp at h
    · rw [varB_high h7] at h
      match l, h with
      | [], h =>
        simp at h
        have := varB_pos (n / 128)
        rw [h.2] at this
        simp at this
      | x :: r, h =>
        simp at h
        have := ih (n / 128) (by omega) h.2
        omega

theorem varB_not {n : Nat} {l : List UInt8} {c : UInt8} (hc : c.toNat = 0) (hl : l ≠ []) : varB n ≠ l ++ [c] := by
  intro h
  have := varB_ends h hc
  subst this
  rw [varB_low (by omega)] at h
  match l, h, hl with
  | x :: r, h, _ => simp at h

/-- The bytes that are behind: each goes on, and together they are worth n. -/
structure RdPre (s : ByteArray) (a i n : Nat) : Prop where
  on : ∀ b ∈ (s.data.toList.drop a).take (i - a), 128 ≤ b.toNat
  worth : n = acc ((s.data.toList.drop a).take (i - a))

theorem RdPre.start (s : ByteArray) (a : Nat) : RdPre s a a 0 := ⟨by simp, by simp [acc]⟩

theorem take_at {s : ByteArray} {a i : Nat} (hi : i < s.size) (ha : a ≤ i) : (s.data.toList.drop a).take (i + 1 - a) = (s.data.toList.drop a).take (i - a) ++ [s[i]] := by
  have e : i + 1 - a = (i - a) + 1 := by omega
  have hlt : i - a < (s.data.toList.drop a).length := by simp; omega
  rw [e, List.take_succ_eq_append_getElem hlt]
  congr 2
  rw [List.getElem_drop]
  have e2 : a + (i - a) = i := by omega
  simp only [e2]
  rfl

theorem RdPre.len {s : ByteArray} {a i n : Nat} (_h : RdPre s a i n) (hi : i ≤ s.size) (_ha : a ≤ i) : ((s.data.toList.drop a).take (i - a)).length = i - a := by
  simp; omega

theorem RdPre.worthNext {s : ByteArray} {a i n c : Nat} (h : RdPre s a i n) (hv : RdInv s a i n c) (hi : i < s.size) : n + s[i].toNat % 128 * c = acc ((s.data.toList.drop a).take (i + 1 - a)) := by
  rw [take_at hi hv.lo, acc_snoc, h.len hv.hi hv.lo, ← h.worth, hv.w]

theorem RdPre.next {s : ByteArray} {a i n c : Nat} (h : RdPre s a i n) (hv : RdInv s a i n c) (hi : i < s.size) (hb : ¬ s[i].toNat < 128) : RdPre s a (i + 1) (n + s[i].toNat % 128 * c) := by
  refine ⟨?_, h.worthNext hv hi⟩
  rw [take_at hi hv.lo]
  intro b hb'
  rcases List.mem_append.1 hb' with x | x
  · exact h.on b x
  · simp at x; subst x; omega

theorem RdPre.same {s : ByteArray} {a i n c : Nat} (h : RdPre s a i n) (hv : RdInv s a i n c) (hi : i < s.size) (hb : s[i].toNat < 128) (hz : ¬ (s[i].toNat = 0 ∧ a < i)) :
    varB (n + s[i].toNat % 128 * c) = (s.extract a (i + 1)).data.toList := by
  rw [extract_list, h.worthNext hv hi, take_at hi hv.lo]
  refine varB_acc h.on hb ?_
  rintro ⟨z, hne⟩
  refine hz ⟨z, ?_⟩
  rcases Nat.lt_or_ge a i with x | x
  · exact x
  · exfalso; apply hne
    have e : i - a = 0 := by omega
    rw [e]; rfl

theorem RdPre.other {s : ByteArray} {a i n c : Nat} (_h : RdPre s a i n) (hv : RdInv s a i n c) (hi : i < s.size) (hz : s[i].toNat = 0) (ha : a < i) :
    varB (n + s[i].toNat % 128 * c) ≠ (s.extract a (i + 1)).data.toList := by
  rw [extract_list, take_at hi hv.lo]
  refine varB_not hz ?_
  intro e
  have := congrArg List.length e
  simp at this
  omega

theorem RdPre.no {s : ByteArray} {a i n c : Nat} (h : RdPre s a i n) (hv : RdInv s a i n c) (hi : i < s.size) (h5 : i < a + 5) (hb : s[i].toNat < 128) (ht : (!varB (n + s[i].toNat % 128 * c) == (s.extract a (i + 1)).toList) = true) : rdAt s a = none := by
  by_cases hz : s[i].toNat = 0 ∧ a < i
  · exact hv.bad hi h5 hb (.inr hz)
  · rw [h.same hv hi hb hz, ByteArray.toList_eq] at ht
    simp at ht

theorem RdPre.yes {s : ByteArray} {a i n c : Nat} (h : RdPre s a i n) (hv : RdInv s a i n c) (hi : i < s.size) (h5 : i < a + 5) (hb : s[i].toNat < 128) (hx : ¬ 1000000000 < n + s[i].toNat % 128 * c)
    (ht : (!varB (n + s[i].toNat % 128 * c) == (s.extract a (i + 1)).toList) = false) : rdAt s a = some (n + s[i].toNat % 128 * c, i + 1) := by
  refine hv.good hi h5 hb hx fun hz => ?_
  have := h.other hv hi hz.1 hz.2
  rw [ByteArray.toList_eq, Bool.not_eq_false', beq_iff_eq] at ht
  exact this ht

theorem cast_sum (n x c : Nat) : (n : Int) + (x : Int) % 128 * (c : Int) = ((n + x % 128 * c : Nat) : Int) := by simp

theorem big_cast {n x c : Nat} (h : 1000000000 < n + x % 128 * c) : (1000000000 : Int) < (n : Int) + (x : Int) % 128 * (c : Int) := by rw [cast_sum]; omega
theorem big_cast' {n x c : Nat} (h : ¬ 1000000000 < n + x % 128 * c) : ¬ (1000000000 : Int) < (n : Int) + (x : Int) % 128 * (c : Int) := by rw [cast_sum]; omega
theorem ret3_some {n x c j : Nat} : Ending.returned (.tuple #[.int .i64 ((n : Int) + (x : Int) % 128 * (c : Int)), .int .i64 ((j : Int) + 1), .bool true]) = .returned (ret3 (some (n + x % 128 * c, j + 1))) := by
  rw [cast_sum]; rfl

end Go.Proofs.YtlaoikpbgbckjaaDoor
