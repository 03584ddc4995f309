/-
  Contracts of chapter 1, carried from the seats of its exact laws: VarPure.
-/
import Derived.Test.YtpienefbgpgdkaaDoorFigPure
import Derived.Lib.ItoaNum
namespace Go.Proofs.YtpienefbgpgdkaaDoor
open Go.RowKit Go.Lib

/-- The bytes of a number, seven bits a byte, the lowest first; all but the last bear 128 (with fuel). -/
def varF : Nat → Nat → List UInt8
  | 0, n => [UInt8.ofNat n]
  | f + 1, n => if n ≤ 127 then [UInt8.ofNat n] else UInt8.ofNat (n % 128 + 128) :: varF f (n / 128)

def varB (n : Nat) : List UInt8 := varF n n

theorem varF_low (f : Nat) {n : Nat} (h : n ≤ 127) : varF f n = [UInt8.ofNat n] := by
  cases f with
  | zero => rfl
  | succ f => rw [varF, if_pos h]

theorem varF_fuel : ∀ (f g n : Nat), n ≤ f → n ≤ g → varF f n = varF g n
  | 0, g, n, h, _ => by rw [varF_low 0 (by omega), varF_low g (by omega)]
  | f + 1, 0, n, _, h => by rw [varF_low (f + 1) (by omega), varF_low 0 (by omega)]
  | f + 1, g + 1, n, h1, h2 => by
    by_cases h : n ≤ 127
    · rw [varF_low _ h, varF_low _ h]
    · rw [varF, varF, if_neg h, if_neg h, varF_fuel f g (n / 128) (by omega) (by omega)]

theorem varB_low {n : Nat} (h : n ≤ 127) : varB n = [UInt8.ofNat n] := varF_low n h
theorem varB_high {n : Nat} (h : ¬ n ≤ 127) : varB n = UInt8.ofNat (n % 128 + 128) :: varB (n / 128) := by
  obtain ⟨m, rfl⟩ : ∃ m, n = m + 1 := ⟨n - 1, by omega⟩
  unfold varB
  rw [varF, if_neg h, varF_fuel m ((m + 1) / 128) ((m + 1) / 128) (by omega) (Nat.le_refl _)]
theorem varB_step {n m : Nat} {pre : List UInt8} (h : varB n = pre ++ varB m) (h7 : 127 < m) : varB n = (pre ++ [UInt8.ofNat (m % 128 + 128)]) ++ varB (m / 128) := by
  rw [h, varB_high (by omega)]; simp
theorem varB_last {n m : Nat} {pre : List UInt8} (h : varB n = pre ++ varB m) (h7 : ¬ 127 < m) : pre ++ [UInt8.ofNat m] = varB n := by
  rw [h, varB_low (by omega)]
theorem varB_pos (n : Nat) : 0 < (varB n).length := by
  by_cases h : n ≤ 127
  · rw [varB_low h]; simp
  · rw [varB_high h]; simp

theorem varB_len (n : Nat) : (varB n).length ≤ n + 1 := by
  induction n using Nat.strongRecOn with
  | _ n ih =>
    by_cases h : n ≤ 127
    · rw [varB_low h]; simp
    · rw [varB_high h]
      have := ih (n / 128) (by omega)
      simp only [List.length_cons]
      omega

/-- At most 'f' bytes more of a number of which 'k' bytes, worth 'n', are behind. -/
def rd : Nat → List UInt8 → Nat → Nat → Option (Nat × Nat)
  | 0, _, _, _ => none
  | _ + 1, [], _, _ => none
  | f + 1, b :: r, k, n =>
    if b.toNat < 128 then (if 1000000000 < n + b.toNat % 128 * 128 ^ k ∨ (b.toNat = 0 ∧ 0 < k) then none else some (n + b.toNat % 128 * 128 ^ k, k + 1))
    else rd f r (k + 1) (n + b.toNat % 128 * 128 ^ k)

def rdAt (s : ByteArray) (a : Nat) : Option (Nat × Nat) := (rd 5 (s.data.toList.drop a) 0 0).map fun x => (x.1, a + x.2)

def ret3 : Option (Nat × Nat) → Value
  | none => .tuple #[.int .i64 0, .int .i64 0, .bool false]
  | some x => .tuple #[.int .i64 (x.1 : Int), .int .i64 (x.2 : Int), .bool true]

/-- What is so at the head of a round: the place is i, the number so far n, its next weight c. -/
structure RdInv (s : ByteArray) (a i n c : Nat) : Prop where
  lo : a ≤ i
  hi : i ≤ s.size
  five : i ≤ a + 5
  w : c = 128 ^ (i - a)
  small : n < c
  eq : rd 5 (s.data.toList.drop a) 0 0 = rd (5 - (i - a)) (s.data.toList.drop i) (i - a) n

theorem RdInv.start {s : ByteArray} {a : Nat} (h : a ≤ s.size) : RdInv s a a 0 1 := ⟨Nat.le_refl _, h, by omega, by simp, by omega, by simp⟩

theorem RdInv.weight {s : ByteArray} {a i n c : Nat} (h : RdInv s a i n c) : 0 < c ∧ c ≤ 34359738368 ∧ (i < a + 5 → c ≤ 268435456) ∧ (¬ i < a + 5 → 1000000000 < c) := by
  obtain ⟨h1, h2, h3, rfl, h5, h6⟩ := h
  obtain ⟨k, rfl⟩ : ∃ k, i = a + k := ⟨i - a, by omega⟩
  have hk : k ≤ 5 := by omega
  simp only [Nat.add_sub_cancel_left]
  match k, hk with
  | 0, _ => simp
  | 1, _ => simp
  | 2, _ => simp
  | 3, _ => simp
  | 4, _ => simp
  | 5, _ => simp

theorem RdInv.unfold {s : ByteArray} {a i n c : Nat} (h : RdInv s a i n c) (hi : i < s.size) (h5 : i < a + 5) :
    rd 5 (s.data.toList.drop a) 0 0 = (if s[i].toNat < 128 then (if 1000000000 < n + s[i].toNat % 128 * c ∨ (s[i].toNat = 0 ∧ 0 < i - a) then none else some (n + s[i].toNat % 128 * c, i - a + 1))
      else rd (5 - (i + 1 - a)) (s.data.toList.drop (i + 1)) (i + 1 - a) (n + s[i].toNat % 128 * c)) := by
  rw [h.eq, drop_at s i hi]
  have e1 : 5 - (i - a) = (5 - (i + 1 - a)) + 1 := by have := h.lo; omega
  have e2 : i + 1 - a = i - a + 1 := by have := h.lo; omega
  rw [e1, rd, h.w, e2]

theorem RdInv.prod {s : ByteArray} {a i n c : Nat} (h : RdInv s a i n c) (x : Nat) (hx : x < 128) : x * c ≤ 127 * c ∧ n + x * c < 128 * c := by
  have h1 : x * c ≤ 127 * c := Nat.mul_le_mul_right c (by omega)
  have := h.small
  exact ⟨h1, by omega⟩

theorem RdInv.next {s : ByteArray} {a i n c : Nat} (h : RdInv s a i n c) (hi : i < s.size) (h5 : i < a + 5) (hb : ¬ s[i].toNat < 128) : RdInv s a (i + 1) (n + s[i].toNat % 128 * c) (c * 128) := by
  have hp := h.prod (s[i].toNat % 128) (by omega)
  refine ⟨by have := h.lo; omega, hi, by omega, ?_, by omega, ?_⟩
  · have e2 : i + 1 - a = i - a + 1 := by have := h.lo; omega
    rw [e2, Nat.pow_succ, h.w]
  · rw [h.unfold hi h5, if_neg hb]

theorem RdInv.out {s : ByteArray} {a i n c : Nat} (h : RdInv s a i n c) (hi : ¬ (i < s.size ∧ i < a + 5)) : rdAt s a = none := by
  rw [rdAt, h.eq]
  by_cases h5 : i < a + 5
  · have : s.size ≤ i := by omega
    rw [List.drop_eq_nil_of_le (by simpa using this)]
    obtain ⟨f, hf⟩ : ∃ f, 5 - (i - a) = f + 1 := ⟨5 - (i - a) - 1, by have := h.lo; omega⟩
    rw [hf]; rfl
  · have : 5 - (i - a) = 0 := by omega
    rw [this]; rfl

theorem RdInv.bad {s : ByteArray} {a i n c : Nat} (h : RdInv s a i n c) (hi : i < s.size) (h5 : i < a + 5) (hb : s[i].toNat < 128) (hx : 1000000000 < n + s[i].toNat % 128 * c ∨ (s[i].toNat = 0 ∧ a < i)) : rdAt s a = none := by
  rw [rdAt, h.unfold hi h5, if_pos hb, if_pos (hx.imp_right fun x => ⟨x.1, by omega⟩)]; rfl

theorem RdInv.good {s : ByteArray} {a i n c : Nat} (h : RdInv s a i n c) (hi : i < s.size) (h5 : i < a + 5) (hb : s[i].toNat < 128) (h1 : ¬ 1000000000 < n + s[i].toNat % 128 * c) (h2 : ¬ (s[i].toNat = 0 ∧ a < i)) : rdAt s a = some (n + s[i].toNat % 128 * c, i + 1) := by
  rw [rdAt, h.unfold hi h5, if_pos hb, if_neg (by rintro (x | x); exact h1 x; exact h2 ⟨x.1, by omega⟩)]
  simp only [Option.map_some]
  congr 2
  have := h.lo
  omega

/-- What bytes are worth together. -/
def acc : List UInt8 → Nat
  | [] => 0
  | b :: r => b.toNat % 128 + 128 * acc r

theorem acc_snoc (l : List UInt8) (b : UInt8) : acc (l ++ [b]) = acc l + b.toNat % 128 * 128 ^ l.length := by
  induction l with
  | nil => simp [acc]
  | cons x r ih =>
    simp only [List.cons_append, acc, ih, List.length_cons, Nat.pow_succ, Nat.mul_add]
    have : 128 * (b.toNat % 128 * 128 ^ r.length) = b.toNat % 128 * (128 ^ r.length * 128) := by
      rw [Nat.mul_comm 128, Nat.mul_assoc]
    omega

theorem acc_pos {l : List UInt8} {c : UInt8} (hc : 0 < c.toNat) (hc' : c.toNat < 128) : 0 < acc (l ++ [c]) := by
  induction l with
  | nil => simp [acc]; omega
  | cons x r ih => simp only [List.cons_append, acc]; omega

theorem byte_back {b : UInt8} (h : 128 ≤ b.toNat) : UInt8.ofNat (b.toNat % 128 + 128) = b := by
  apply UInt8.toNat_inj.1
  rw [toNat_of (by omega)]
  have := b.toNat_lt
  omega

theorem varB_acc {l : List UInt8} (hl : ∀ b ∈ l, 128 ≤ b.toNat) {c : UInt8} (hc : c.toNat < 128) (h : ¬ (c.toNat = 0 ∧ l ≠ [])) : varB (acc (l ++ [c])) = l ++ [c] := by
  induction l with
  | nil =>
    have e : acc ([] ++ [c]) = c.toNat := by simp [acc]; omega
    rw [e, varB_low (by omega)]
    simp
  | cons x r ih =>
    have hc0 : 0 < c.toNat := by
      rcases Nat.eq_zero_or_pos c.toNat with z | z
      · exact absurd ⟨z, by simp⟩ h
      · exact z
    have hp := acc_pos (l := r) hc0 hc
    have hx := hl x (by simp)
    have ih' := ih (fun b hb => hl b (by simp [hb])) (by omega)
    simp only [List.cons_append, acc]
    rw [varB_high (by omega)]
    have e1 : (x.toNat % 128 + 128 * acc (r ++ [c])) % 128 = x.toNat % 128 := by omega
    have e2 : (x.toNat % 128 + 128 * acc (r ++ [c])) / 128 = acc (r ++ [c]) := by omega
    rw [e1, e2, ih', byte_back hx]

theorem varB_ends {n : Nat} {l : List UInt8} {c : UInt8} (h : varB n = l ++ [c]) (hc : c.toNat = 0) : n = 0 := by
  induction n using Nat.strongRecOn generalizing l with
  | _ n ih =>
    by_cases h7 : n ≤ 127
    · rw [varB_low h7] at h
      match l, h with
      | [], h =>
        simp at h
        rw [← h, toNat_of (by omega)] at hc
        exact hc
      | x :: r, h => simp at h
    · rw [varB_high h7] at h
      match l, h with
      | [], h =>
        simp at h
        have := varB_pos (n / 128)
        rw [h.2] at this
        simp at this
      | x :: r, h =>
        simp at h
        have := ih (n / 128) (by omega) h.2
        omega

theorem varB_not {n : Nat} {l : List UInt8} {c : UInt8} (hc : c.toNat = 0) (hl : l ≠ []) : varB n ≠ l ++ [c] := by
  intro h
  have := varB_ends h hc
  subst this
  rw [varB_low (by omega)] at h
  match l, h, hl with
  | x :: r, h, _ => simp at h

/-- The bytes that are behind: each goes on, and together they are worth n. -/
structure RdPre (s : ByteArray) (a i n : Nat) : Prop where
  on : ∀ b ∈ (s.data.toList.drop a).take (i - a), 128 ≤ b.toNat
  worth : n = acc ((s.data.toList.drop a).take (i - a))

theorem RdPre.start (s : ByteArray) (a : Nat) : RdPre s a a 0 := ⟨by simp, by simp [acc]⟩

theorem take_at {s : ByteArray} {a i : Nat} (hi : i < s.size) (ha : a ≤ i) : (s.data.toList.drop a).take (i + 1 - a) = (s.data.toList.drop a).take (i - a) ++ [s[i]] := by
  have e : i + 1 - a = (i - a) + 1 := by omega
  have hlt : i - a < (s.data.toList.drop a).length := by simp; omega
  rw [e, List.take_succ_eq_append_getElem hlt]
  congr 2
  rw [List.getElem_drop]
  have e2 : a + (i - a) = i := by omega
  simp only [e2]
  rfl

theorem RdPre.len {s : ByteArray} {a i n : Nat} (_h : RdPre s a i n) (hi : i ≤ s.size) (_ha : a ≤ i) : ((s.data.toList.drop a).take (i - a)).length = i - a := by
  simp; omega

theorem RdPre.worthNext {s : ByteArray} {a i n c : Nat} (h : RdPre s a i n) (hv : RdInv s a i n c) (hi : i < s.size) : n + s[i].toNat % 128 * c = acc ((s.data.toList.drop a).take (i + 1 - a)) := by
  rw [take_at hi hv.lo, acc_snoc, h.len hv.hi hv.lo, ← h.worth, hv.w]

theorem RdPre.next {s : ByteArray} {a i n c : Nat} (h : RdPre s a i n) (hv : RdInv s a i n c) (hi : i < s.size) (hb : ¬ s[i].toNat < 128) : RdPre s a (i + 1) (n + s[i].toNat % 128 * c) := by
  refine ⟨?_, h.worthNext hv hi⟩
  rw [take_at hi hv.lo]
  intro b hb'
  rcases List.mem_append.1 hb' with x | x
  · exact h.on b x
  · simp at x; subst x; omega

theorem extract_list (s : ByteArray) (a b : Nat) : (s.extract a b).data.toList = (s.data.toList.drop a).take (b - a) := by
  simp [ByteArray.data_extract, List.take_drop]

theorem RdPre.same {s : ByteArray} {a i n c : Nat} (h : RdPre s a i n) (hv : RdInv s a i n c) (hi : i < s.size) (hb : s[i].toNat < 128) (hz : ¬ (s[i].toNat = 0 ∧ a < i)) :
    varB (n + s[i].toNat % 128 * c) = (s.extract a (i + 1)).data.toList := by
  rw [extract_list, h.worthNext hv hi, take_at hi hv.lo]
  refine varB_acc h.on hb ?_
  rintro ⟨z, hne⟩
  refine hz ⟨z, ?_⟩
  rcases Nat.lt_or_ge a i with x | x
  · exact x
  · exfalso; apply hne
    have e : i - a = 0 := by omega
    rw [e]; rfl

theorem RdPre.other {s : ByteArray} {a i n c : Nat} (_h : RdPre s a i n) (hv : RdInv s a i n c) (hi : i < s.size) (hz : s[i].toNat = 0) (ha : a < i) :
    varB (n + s[i].toNat % 128 * c) ≠ (s.extract a (i + 1)).data.toList := by
  rw [extract_list, take_at hi hv.lo]
  refine varB_not hz ?_
  intro e
  have := congrArg List.length e
  simp at this
  omega

theorem RdPre.no {s : ByteArray} {a i n c : Nat} (h : RdPre s a i n) (hv : RdInv s a i n c) (hi : i < s.size) (h5 : i < a + 5) (hb : s[i].toNat < 128) (ht : (!varB (n + s[i].toNat % 128 * c) == (s.extract a (i + 1)).toList) = true) : rdAt s a = none := by
  by_cases hz : s[i].toNat = 0 ∧ a < i
  · exact hv.bad hi h5 hb (.inr hz)
  · rw [h.same hv hi hb hz, ByteArray.toList_eq] at ht
    simp at ht

theorem RdPre.yes {s : ByteArray} {a i n c : Nat} (h : RdPre s a i n) (hv : RdInv s a i n c) (hi : i < s.size) (h5 : i < a + 5) (hb : s[i].toNat < 128) (hx : ¬ 1000000000 < n + s[i].toNat % 128 * c)
    (ht : (!varB (n + s[i].toNat % 128 * c) == (s.extract a (i + 1)).toList) = false) : rdAt s a = some (n + s[i].toNat % 128 * c, i + 1) := by
  refine hv.good hi h5 hb hx fun hz => ?_
  have := h.other hv hi hz.1 hz.2
  rw [ByteArray.toList_eq, Bool.not_eq_false', beq_iff_eq] at ht
  exact this ht

theorem cast_sum (n x c : Nat) : (n : Int) + (x : Int) % 128 * (c : Int) = ((n + x % 128 * c : Nat) : Int) := by simp

theorem big_cast {n x c : Nat} (h : 1000000000 < n + x % 128 * c) : (1000000000 : Int) < (n : Int) + (x : Int) % 128 * (c : Int) := by rw [cast_sum]; omega
theorem big_cast' {n x c : Nat} (h : ¬ 1000000000 < n + x % 128 * c) : ¬ (1000000000 : Int) < (n : Int) + (x : Int) % 128 * (c : Int) := by rw [cast_sum]; omega
theorem ret3_some {n x c j : Nat} : Ending.returned (.tuple #[.int .i64 ((n : Int) + (x : Int) % 128 * (c : Int)), .int .i64 ((j : Int) + 1), .bool true]) = .returned (ret3 (some (n + x % 128 * c, j + 1))) := by
  rw [cast_sum]; rfl

/-- The figure of a number below 16, as a number. -/
def figZ (z : Int) : Int := if z < 10 then 48 + z else 87 + z

def fig (n : Nat) : UInt8 := UInt8.ofNat (if n < 10 then 48 + n else 87 + n)

theorem figZ_eq (n : Nat) (h : n < 16) : figZ (n : Int) = ((fig n).toNat : Int) := by
  unfold figZ fig
  by_cases h9 : n < 10
  · rw [if_pos h9, if_pos (by omega), toNat_of (by omega)]; omega
  · rw [if_neg h9, if_neg (by omega), toNat_of (by omega)]; omega

/-- Two figures for each byte. -/
def hexL : List UInt8 → List UInt8
  | [] => []
  | b :: r => fig (b.toNat / 16) :: fig (b.toNat % 16) :: hexL r

theorem hexL_len (l : List UInt8) : (hexL l).length = 2 * l.length := by
  induction l with
  | nil => rfl
  | cons b r ih => simp only [hexL, List.length_cons, ih]; omega

theorem hexL_snoc (l : List UInt8) (b : UInt8) : hexL (l ++ [b]) = hexL l ++ [fig (b.toNat / 16), fig (b.toNat % 16)] := by
  induction l with
  | nil => rfl
  | cons x r ih => simp only [List.cons_append, hexL, ih]

theorem hex_len (s : ByteArray) (k : Nat) (h : k ≤ s.size) : (hexL (s.data.toList.take k)).length = 2 * k := by
  rw [hexL_len]; simp; have : s.data.size = s.size := rfl; omega

/-- What the append of two figures leaves. -/
theorem push_hex {w wr w1 W : World} {B : Nat} {v v' : Value} {s : ByteArray} {k : Nat} (hk : k < s.size) (hB : B ≤ W.heap.size) (hbel : Below B w W)
    (hown : wr.ownsRow B 5 1 v (hexL (s.data.toList.take k)).length (bytesV (hexL (s.data.toList.take k))))
    (hown' : w1.ownsRow B 5 1 v' ((hexL (s.data.toList.take k)).length + 2) (bytesV (hexL (s.data.toList.take k)) ++ [Value.int .u8 (figZ ((s[k].toNat : Int) / 16)), Value.int .u8 (figZ ((s[k].toNat : Int) % 16))])) (hgrow : W.grownBy w1 v.ownBlock) :
    w1.ownsRow B 5 1 v' (hexL (s.data.toList.take (k + 1))).length (bytesV (hexL (s.data.toList.take (k + 1)))) ∧ Below B w w1 := by
  have hb := s[k].toNat_lt
  refine ⟨?_, hbel.grown hgrow hB (fun k hk => (hown.lt k hk).1)⟩
  have e1 := figZ_eq (s[k].toNat / 16) (by omega)
  have e2 := figZ_eq (s[k].toNat % 16) (by omega)
  have c1 : ((s[k].toNat / 16 : Nat) : Int) = (s[k].toNat : Int) / 16 := by omega
  have c2 : ((s[k].toNat % 16 : Nat) : Int) = (s[k].toNat : Int) % 16 := by omega
  rw [c1] at e1
  rw [c2] at e2
  rw [take_snoc s k hk, hexL_snoc, bytesV_append, List.length_append]
  rw [e1, e2] at hown'
  exact hown'

def pairB : List Nat → List UInt8
  | a :: b :: r => UInt8.ofNat (16 * a + b) :: pairB r
  | _ => []

def unS : List UInt8 → Option (List UInt8)
  | a :: b :: r => (val a).bind fun x => (val b).bind fun y => (unS r).map fun t => UInt8.ofNat (16 * x + y) :: t
  | _ => some []

theorem val_lt {b : UInt8} {v : Nat} (h : val b = some v) : v < 16 := by
  unfold val at h
  by_cases h1 : 48 ≤ b.toNat ∧ b.toNat ≤ 57
  · rw [if_pos h1] at h; simp at h; omega
  · rw [if_neg h1] at h
    by_cases h2 : 97 ≤ b.toNat ∧ b.toNat ≤ 102
    · rw [if_pos h2] at h; simp at h; omega
    · rw [if_neg h2] at h; cases h

theorem valB_16 (b : UInt8) : valB 16 b = val b := by
  unfold valB
  cases h : val b with
  | none => rfl
  | some v => simp [val_lt h]

theorem unS_eq : ∀ (l : List UInt8), l.length % 2 = 0 → unS l = (allV 16 l).map pairB
  | [], _ => rfl
  | [a], h => by simp at h
  | a :: b :: r, h => by
    simp only [unS, allV, valB_16]
    rw [unS_eq r (by simp at h; omega)]
    cases val a with
    | none => rfl
    | some x =>
      cases val b with
      | none => rfl
      | some y =>
        simp only [Option.bind_some]
        cases allV 16 r <;> rfl

theorem pairB_append : ∀ (l m : List Nat), l.length % 2 = 0 → pairB (l ++ m) = pairB l ++ pairB m
  | [], m, _ => by simp [pairB]
  | [a], m, h => by simp at h
  | a :: b :: r, m, h => by
    simp only [List.cons_append, pairB]
    rw [pairB_append r m (by simp at h; omega)]

theorem take_two {vs : List Nat} {k : Nat} (h : k + 1 < vs.length) : vs.take (k + 2) = vs.take k ++ [vs[k], vs[k + 1]] := by
  have e1 : vs.take (k + 1 + 1) = vs.take (k + 1) ++ [vs[k + 1]] := List.take_succ_eq_append_getElem h
  have e2 : vs.take (k + 1) = vs.take k ++ [vs[k]] := List.take_succ_eq_append_getElem (by omega)
  show vs.take (k + 1 + 1) = _
  rw [e1, e2, List.append_assoc]
  rfl

theorem pairB_next {vs : List Nat} {k : Nat} (h : 2 * k + 1 < vs.length) : pairB (vs.take (2 * (k + 1))) = pairB (vs.take (2 * k)) ++ [UInt8.ofNat (16 * vs[2 * k] + vs[2 * k + 1])] := by
  rw [show 2 * (k + 1) = 2 * k + 2 by omega, take_two h, pairB_append _ _ (by simp; omega)]
  rfl

theorem pairB_len : ∀ (l : List Nat), (pairB l).length = l.length / 2
  | [] => rfl
  | [a] => by simp [pairB]
  | a :: b :: r => by simp only [pairB, List.length_cons, pairB_len r]; omega

/-- At the head of a round of spec.Unhex: k bytes are made. -/
structure UnInv (s : ByteArray) (k : Nat) (out : List UInt8) : Prop where
  le : 2 * k ≤ s.size
  len : out.length = k
  eq : unS s.data.toList = (unS (s.data.toList.drop (2 * k))).map fun t => out ++ t

theorem UnInv.start (s : ByteArray) : UnInv s 0 [] := ⟨by omega, rfl, by simp⟩

theorem drop_two {s : ByteArray} {k : Nat} (h : 2 * k + 1 < s.size) : s.data.toList.drop (2 * k) = s[2 * k] :: s[2 * k + 1] :: s.data.toList.drop (2 * (k + 1)) := by
  rw [drop_at s (2 * k) (by omega), drop_at s (2 * k + 1) h]
  rfl

theorem UnInv.next {s : ByteArray} {k : Nat} {out : List UInt8} (h : UnInv s k out) (hk : 2 * k + 1 < s.size) {x y : Nat} (hx : val s[2 * k] = some x) (hy : val s[2 * k + 1] = some y) :
    UnInv s (k + 1) (out ++ [UInt8.ofNat (16 * x + y)]) := by
  refine ⟨by omega, by simp [h.len], ?_⟩
  rw [h.eq, drop_two hk]
  simp only [unS, hx, hy, Option.bind_some, Option.map_map]
  congr 1
  funext t
  simp

theorem UnInv.bad {s : ByteArray} {k : Nat} {out : List UInt8} (h : UnInv s k out) (hk : 2 * k + 1 < s.size) (hxy : val s[2 * k] = none ∨ val s[2 * k + 1] = none) : unS s.data.toList = none := by
  rw [h.eq, drop_two hk]
  simp only [unS]
  rcases hxy with e | e
  · rw [e]; rfl
  · rw [e]; cases val s[2 * k] <;> rfl

theorem UnInv.all {s : ByteArray} {k : Nat} {out : List UInt8} (h : UnInv s k out) (hk : ¬ 2 * k < s.size) : unS s.data.toList = some out := by
  rw [h.eq, List.drop_eq_nil_of_le (by simp; have : s.data.size = s.size := rfl; omega)]
  simp [unS]

theorem UnInv.next' {s : ByteArray} {k j : Nat} {out : List UInt8} (h : UnInv s k out) (hj : j = 2 * k) (hk0 : j < s.size) (hk : j + 1 < s.size) {x y : Nat} (hx : val s[j] = some x) (hy : val s[j + 1] = some y) :
    UnInv s (k + 1) (out ++ [UInt8.ofNat (16 * x + y)]) := by subst hj; exact h.next hk hx hy
theorem UnInv.bad' {s : ByteArray} {k j : Nat} {out : List UInt8} (h : UnInv s k out) (hj : j = 2 * k) (hk0 : j < s.size) (hk : j + 1 < s.size) (hxy : val s[j] = none ∨ val s[j + 1] = none) : unS s.data.toList = none := by
  subst hj; exact h.bad hk hxy


end Go.Proofs.YtpienefbgpgdkaaDoor
