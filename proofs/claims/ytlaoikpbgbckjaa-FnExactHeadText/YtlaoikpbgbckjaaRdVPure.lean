/-
  Plain facts on reading a number in groups of seven bits: no program in here.
-/
import Derived.Test.YtlaoikpbgbckjaaVarPure
import Derived.Test.YtlaoikpbgbckjaaDigPure
namespace Go.Proofs.Ytlaoikpbgbckjaa

/-- At most 'f' bytes more of a number of which 'k' bytes, worth 'n', are behind. -/
def rd : Nat → List UInt8 → Nat → Nat → Option (Nat × Nat)
  | 0, _, _, _ => none
  | _ + 1, [], _, _ => none
  | f + 1, b :: r, k, n =>
    if b.toNat < 128 then (if 1000000000 < n + b.toNat % 128 * 128 ^ k ∨ (b.toNat = 0 ∧ 0 < k) then none else some (n + b.toNat % 128 * 128 ^ k, k + 1))
    else rd f r (k + 1) (n + b.toNat % 128 * 128 ^ k)

def rdAt (s : ByteArray) (a : Nat) : Option (Nat × Nat) := (rd 5 (s.data.toList.drop a) 0 0).map fun x => (x.1, a + x.2)

def ret3 : Option (Nat × Nat) → Value
  | none => .tuple #[.int .i64 0, .int .i64 0, .bool false]
  | some x => .tuple #[.int .i64 (x.1 : Int), .int .i64 (x.2 : Int), .bool true]

/-- What is so at the head of a round: the place is i, the number so far n, its next weight c. -/
structure RdInv (s : ByteArray) (a i n c : Nat) : Prop where
  lo : a ≤ i
  hi : i ≤ s.size
  five : i ≤ a + 5
  w : c = 128 ^ (i - a)
  small : n < c
  eq : rd 5 (s.data.toList.drop a) 0 0 = rd (5 - (i - a)) (s.data.toList.drop i) (i - a) n

theorem RdInv.start {s : ByteArray} {a : Nat} (h : a ≤ s.size) : RdInv s a a 0 1 := ⟨Nat.le_refl _, h, by omega, by simp, by omega, by simp⟩

theorem RdInv.weight {s : ByteArray} {a i n c : Nat} (h : RdInv s a i n c) : 0 < c ∧ c ≤ 34359738368 ∧ (i < a + 5 → c ≤ 268435456) ∧ (¬ i < a + 5 → 1000000000 < c) := by
  obtain ⟨h1, h2, h3, rfl, h5, h6⟩ := h
  obtain ⟨k, rfl⟩ : ∃ k, i = a + k := ⟨i - a, by omega⟩
  have hk : k ≤ 5 := by omega
  simp only [Nat.add_sub_cancel_left]
  match k, hk with
  | 0, _ => simp
  | 1, _ => simp
  | 2, _ => simp
  | 3, _ => simp
  | 4, _ => simp
  | 5, _ => simp

theorem drop_at (s : ByteArray) (i : Nat) (h : i < s.size) : s.data.toList.drop i = s[i] :: s.data.toList.drop (i + 1) := by
  rw [List.drop_eq_getElem_cons (by simpa using h)]; rfl

theorem RdInv.unfold {s : ByteArray} {a i n c : Nat} (h : RdInv s a i n c) (hi : i < s.size) (h5 : i < a + 5) :
    rd 5 (s.data.toList.drop a) 0 0 = (if s[i].toNat < 128 then (if 1000000000 < n + s[i].toNat % 128 * c ∨ (s[i].toNat = 0 ∧ 0 < i - a) then none else some (n + s[i].toNat % 128 * c, i - a + 1))
      else rd (5 - (i + 1 - a)) (s.data.toList.drop (i + 1)) (i + 1 - a) (n + s[i].toNat % 128 * c)) := by
  rw [h.eq, drop_at s i hi]
  have e1 : 5 - (i - a) = (5 - (i + 1 - a)) + 1 := by have := h.lo; omega
  have e2 : i + 1 - a = i - a + 1 := by have := h.lo; omega
  rw [e1, rd, h.w, e2]

theorem RdInv.prod {s : ByteArray} {a i n c : Nat} (h : RdInv s a i n c) (x : Nat) (hx : x < 128) : x * c ≤ 127 * c ∧ n + x * c < 128 * c := by
  have h1 : x * c ≤ 127 * c := Nat.mul_le_mul_right c (by omega)
  have := h.small
  exact ⟨h1, by omega⟩

theorem RdInv.next {s : ByteArray} {a i n c : Nat} (h : RdInv s a i n c) (hi : i < s.size) (h5 : i < a + 5) (hb : ¬ s[i].toNat < 128) : RdInv s a (i + 1) (n + s[i].toNat % 128 * c) (c * 128) := by
  have hp := h.prod (s[i].toNat % 128) (by omega)
  refine ⟨by have := h.lo; omega, hi, by omega, ?_, by omega, ?_⟩
  · have e2 : i + 1 - a = i - a + 1 := by have := h.lo; omega
    rw [e2, Nat.pow_succ, h.w]
  · rw [h.unfold hi h5, if_neg hb]

theorem RdInv.out {s : ByteArray} {a i n c : Nat} (h : RdInv s a i n c) (hi : ¬ (i < s.size ∧ i < a + 5)) : rdAt s a = none := by
  rw [rdAt, h.eq]
  by_cases h5 : i < a + 5
  · have : s.size ≤ i := by omega
    rw [List.drop_eq_nil_of_le (by simpa using this)]
    obtain ⟨f, hf⟩ : ∃ f, 5 - (i - a) = f + 1 := ⟨5 - (i - a) - 1, by have := h.lo; omega⟩
    rw [hf]; rfl
  · have : 5 - (i - a) = 0 := by omega
    rw [this]; rfl

theorem RdInv.bad {s : ByteArray} {a i n c : Nat} (h : RdInv s a i n c) (hi : i < s.size) (h5 : i < a + 5) (hb : s[i].toNat < 128) (hx : 1000000000 < n + s[i].toNat % 128 * c ∨ (s[i].toNat = 0 ∧ a < i)) : rdAt s a = none := by
  rw [rdAt, h.unfold hi h5, if_pos hb, if_pos (hx.imp_right fun x => ⟨x.1, by omega⟩)]; rfl

theorem RdInv.good {s : ByteArray} {a i n c : Nat} (h : RdInv s a i n c) (hi : i < s.size) (h5 : i < a + 5) (hb : s[i].toNat < 128) (h1 : ¬ 1000000000 < n + s[i].toNat % 128 * c) (h2 : ¬ (s[i].toNat = 0 ∧ a < i)) : rdAt s a = some (n + s[i].toNat % 128 * c, i + 1) := by
  rw [rdAt, h.unfold hi h5, if_pos hb, if_neg (by rintro (x | x); exact h1 x; exact h2 ⟨x.1, by omega⟩)]
  simp only [Option.map_some]
  congr 2
  have := h.lo
  omega

/-- What bytes are worth together. -/
def acc : List UInt8 → Nat
  | [] => 0
  | b :: r => b.toNat % 128 + 128 * acc r

theorem acc_snoc (l : List UInt8) (b : UInt8) : acc (l ++ [b]) = acc l + b.toNat % 128 * 128 ^ l.length := by
  induction l with
  | nil => simp [acc]
  | cons x r ih =>
    simp only [List.cons_append, acc, ih, List.length_cons, Nat.pow_succ, Nat.mul_add]
    have : 128 * (b.toNat % 128 * 128 ^ r.length) = b.toNat % 128 * (128 ^ r.length * 128) := by
      rw [Nat.mul_comm 128, Nat.mul_assoc]
    omega

theorem acc_pos {l : List UInt8} {c : UInt8} (hc : 0 < c.toNat) (hc' : c.toNat < 128) : 0 < acc (l ++ [c]) := by
  induction l with
  | nil => simp [acc]; omega
  | cons x r ih => simp only [List.cons_append, acc]; omega

theorem byte_back {b : UInt8} (h : 128 ≤ b.toNat) : UInt8.ofNat (b.toNat % 128 + 128) = b := by
  apply UInt8.toNat_inj.1
  rw [toNat_of (by omega)]
  have := b.toNat_lt
  omega

theorem varB_acc {l : List UInt8} (hl : ∀ b ∈ l, 128 ≤ b.toNat) {c : UInt8} (hc : c.toNat < 128) (h : ¬ (c.toNat = 0 ∧ l ≠ [])) : varB (acc (l ++ [c])) = l ++ [c] := by
  induction l with
  | nil =>
    have e : acc ([] ++ [c]) = c.toNat := by simp [acc]; omega
    rw [e, varB_low (by omega)]
    simp
  | cons x r ih =>
    have hc0 : 0 < c.toNat := by
      rcases Nat.eq_zero_or_pos c.toNat with z | z
      · exact absurd ⟨z, by simp⟩ h
      · exact z
    have hp := acc_pos (l := r) hc0 hc
    have hx := hl x (by simp)
    have ih' := ih (fun b hb => hl b (by simp [hb])) (by omega)
    simp only [List.cons_append, acc]
    rw [varB_high (by omega)]
    have e1 : (x.toNat % 128 + 128 * acc (r ++ [c])) % 128 = x.toNat % 128 := by omega
    have e2 : (x.toNat % 128 + 128 * acc (r ++ [c])) / 128 = acc (r ++ [c]) := by omega
    rw [e1, e2, ih', byte_back hx]

theorem varB_ends {n : Nat} {l : List UInt8} {c : UInt8} (h : varB n = l ++ [c]) (hc : c.toNat = 0) : n = 0 := by
  induction n using Nat.strongRecOn generalizing l with
  | _ n ih =>
    by_cases h7 : n ≤ 127
    · rw [varB_low h7] at h
      match l, h with
      | [], h =>
        simp at h
        rw [← h, toNat_of (by omega)] at hc
        exact hc
      | x :: r, h => simp at h
    · rw [varB_high h7] at h
      match l, h with
      | [], h =>
        simp at h
        have := varB_pos (n / 128)
        rw [h.2] at this
        simp at this
      | x :: r, h =>
        simp at h
        have := ih (n / 128) (by omega) h.2
        omega

theorem varB_not {n : Nat} {l : List UInt8} {c : UInt8} (hc : c.toNat = 0) (hl : l ≠ []) : varB n ≠ l ++ [c] := by
  intro h
  have := varB_ends h hc
  subst this
  rw [varB_low (by omega)] at h
  match l, h, hl with
  | x :: r, h, _ => simp at h

/-- The bytes that are behind: each goes on, and together they are worth n. -/
structure RdPre (s : ByteArray) (a i n : Nat) : Prop where
  on : ∀ b ∈ (s.data.toList.drop a).take (i - a), 128 ≤ b.toNat
  worth : n = acc ((s.data.toList.drop a).take (i - a))

theorem RdPre.start (s : ByteArray) (a : Nat) : RdPre s a a 0 := ⟨by simp, by simp [acc]⟩

theorem take_at {s : ByteArray} {a i : Nat} (hi : i < s.size) (ha : a ≤ i) : (s.data.toList.drop a).take (i + 1 - a) = (s.data.toList.drop a).take (i - a) ++ [s[i]] := by
  have e : i + 1 - a = (i - a) + 1 := by omega
  have hlt : i - a < (s.data.toList.drop a).length := by simp; omega
  rw [e, List.take_succ_eq_append_getElem hlt]
  congr 2
  rw [List.getElem_drop]
  have e2 : a + (i - a) = i := by omega
  simp only [e2]
  rfl

theorem RdPre.len {s : ByteArray} {a i n : Nat} (_h : RdPre s a i n) (hi : i ≤ s.size) (_ha : a ≤ i) : ((s.data.toList.drop a).take (i - a)).length = i - a := by
  simp; omega

theorem RdPre.worthNext {s : ByteArray} {a i n c : Nat} (h : RdPre s a i n) (hv : RdInv s a i n c) (hi : i < s.size) : n + s[i].toNat % 128 * c = acc ((s.data.toList.drop a).take (i + 1 - a)) := by
  rw [take_at hi hv.lo, acc_snoc, h.len hv.hi hv.lo, ← h.worth, hv.w]

theorem RdPre.next {s : ByteArray} {a i n c : Nat} (h : RdPre s a i n) (hv : RdInv s a i n c) (hi : i < s.size) (hb : ¬ s[i].toNat < 128) : RdPre s a (i + 1) (n + s[i].toNat % 128 * c) := by
  refine ⟨?_, h.worthNext hv hi⟩
  rw [take_at hi hv.lo]
  intro b hb'
  rcases List.mem_append.1 hb' with x | x
  · exact h.on b x
  · simp at x; subst x; omega

theorem RdPre.same {s : ByteArray} {a i n c : Nat} (h : RdPre s a i n) (hv : RdInv s a i n c) (hi : i < s.size) (hb : s[i].toNat < 128) (hz : ¬ (s[i].toNat = 0 ∧ a < i)) :
    varB (n + s[i].toNat % 128 * c) = (s.extract a (i + 1)).data.toList := by
  rw [extract_list, h.worthNext hv hi, take_at hi hv.lo]
  refine varB_acc h.on hb ?_
  rintro ⟨z, hne⟩
  refine hz ⟨z, ?_⟩
  rcases Nat.lt_or_ge a i with x | x
  · exact x
  · exfalso; apply hne
    have e : i - a = 0 := by omega
    rw [e]; rfl

theorem RdPre.other {s : ByteArray} {a i n c : Nat} (_h : RdPre s a i n) (hv : RdInv s a i n c) (hi : i < s.size) (hz : s[i].toNat = 0) (ha : a < i) :
    varB (n + s[i].toNat % 128 * c) ≠ (s.extract a (i + 1)).data.toList := by
  rw [extract_list, take_at hi hv.lo]
  refine varB_not hz ?_
  intro e
  have := congrArg List.length e
  simp at this
  omega

theorem RdPre.no {s : ByteArray} {a i n c : Nat} (h : RdPre s a i n) (hv : RdInv s a i n c) (hi : i < s.size) (h5 : i < a + 5) (hb : s[i].toNat < 128) (ht : (!varB (n + s[i].toNat % 128 * c) == (s.extract a (i + 1)).toList) = true) : rdAt s a = none := by
  by_cases hz : s[i].toNat = 0 ∧ a < i
  · exact hv.bad hi h5 hb (.inr hz)
  · rw [h.same hv hi hb hz, ByteArray.toList_eq] at ht
    simp at ht

theorem RdPre.yes {s : ByteArray} {a i n c : Nat} (h : RdPre s a i n) (hv : RdInv s a i n c) (hi : i < s.size) (h5 : i < a + 5) (hb : s[i].toNat < 128) (hx : ¬ 1000000000 < n + s[i].toNat % 128 * c)
    (ht : (!varB (n + s[i].toNat % 128 * c) == (s.extract a (i + 1)).toList) = false) : rdAt s a = some (n + s[i].toNat % 128 * c, i + 1) := by
  refine hv.good hi h5 hb hx fun hz => ?_
  have := h.other hv hi hz.1 hz.2
  rw [ByteArray.toList_eq, Bool.not_eq_false', beq_iff_eq] at ht
  exact this ht

theorem cast_sum (n x c : Nat) : (n : Int) + (x : Int) % 128 * (c : Int) = ((n + x % 128 * c : Nat) : Int) := by simp

theorem big_cast {n x c : Nat} (h : 1000000000 < n + x % 128 * c) : (1000000000 : Int) < (n : Int) + (x : Int) % 128 * (c : Int) := by rw [cast_sum]; omega
theorem big_cast' {n x c : Nat} (h : ¬ 1000000000 < n + x % 128 * c) : ¬ (1000000000 : Int) < (n : Int) + (x : Int) % 128 * (c : Int) := by rw [cast_sum]; omega
theorem ret3_some {n x c j : Nat} : Ending.returned (.tuple #[.int .i64 ((n : Int) + (x : Int) % 128 * (c : Int)), .int .i64 ((j : Int) + 1), .bool true]) = .returned (ret3 (some (n + x % 128 * c, j + 1))) := by
  rw [cast_sum]; rfl

end Go.Proofs.Ytlaoikpbgbckjaa
