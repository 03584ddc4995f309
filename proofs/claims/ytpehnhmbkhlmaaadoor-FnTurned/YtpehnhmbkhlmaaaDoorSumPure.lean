/-
  The sum of chapter 2 as plain mathematics: bit by bit, half a byte by a table, and that it is one to one.
-/
import Derived.Laws.BitsAllLaws
namespace Go.Proofs.YtpehnhmbkhlmaaaDoor

/-- One bit. -/
def bit1 (x : Nat) : Nat := if x % 2 = 1 then x / 2 ^^^ 3558460437 else x / 2
/-- k bits. -/
def bitN : Nat → Nat → Nat
  | 0, x => x
  | k + 1, x => bitN k (bit1 x)
/-- One byte. -/
def sum1 (x : Nat) (b : UInt8) : Nat := bitN 8 (x ^^^ b.toNat)
/-- A text. -/
def sumL : Nat → List UInt8 → Nat
  | x, [] => x
  | x, b :: l => sumL (sum1 x b) l

theorem bitN_succ (k x : Nat) : bitN (k + 1) x = bit1 (bitN k x) := by
  induction k generalizing x with
  | zero => rfl
  | succ k ih => exact ih (bit1 x)

theorem bitN_add (j k x : Nat) : bitN (j + k) x = bitN k (bitN j x) := by
  induction j generalizing x with
  | zero => rw [Nat.zero_add]; rfl
  | succ j ih => rw [Nat.succ_add]; exact ih (bit1 x)

theorem xor_half (a b : Nat) : (a ^^^ b) / 2 = a / 2 ^^^ b / 2 := by
  have := Nat.shiftRight_xor_distrib (a := a) (b := b) (i := 1)
  simpa [Nat.shiftRight_succ] using this
theorem xor_odd (a b : Nat) : (a ^^^ b) % 2 = (a % 2 + b % 2) % 2 := by
  have h := Nat.xor_mod_two_pow (a := a) (b := b) (n := 1)
  rw [Nat.pow_one] at h
  rw [h]
  have ha : a % 2 = 0 ∨ a % 2 = 1 := by omega
  have hb : b % 2 = 0 ∨ b % 2 = 1 := by omega
  rcases ha with ha | ha <;> rcases hb with hb | hb <;> rw [ha, hb] <;> rfl
theorem xor_drop_right {a b n : Nat} (h : a ^^^ n = b ^^^ n) : a = b := by
  have := congrArg (· ^^^ n) h
  simpa [Nat.xor_assoc] using this
theorem xor_drop_left {a b n : Nat} (h : n ^^^ a = n ^^^ b) : a = b := xor_drop_right (n := n) (by rw [Nat.xor_comm a, Nat.xor_comm b]; exact h)
theorem bit1_xor (a b : Nat) : bit1 (a ^^^ b) = bit1 a ^^^ bit1 b := by
  have ha : a % 2 = 0 ∨ a % 2 = 1 := by omega
  have hb : b % 2 = 0 ∨ b % 2 = 1 := by omega
  unfold bit1
  rw [xor_odd, xor_half]
  rcases ha with h | h <;> rcases hb with h2 | h2 <;> simp [h, h2]
  · rw [Nat.xor_assoc]
  · rw [Nat.xor_assoc, Nat.xor_assoc, Nat.xor_comm 3558460437 (b / 2)]
  · rw [Nat.xor_assoc, Nat.xor_comm (b / 2) 3558460437, ← Nat.xor_assoc 3558460437, Nat.xor_self, Nat.zero_xor]
theorem bitN_xor (k a b : Nat) : bitN k (a ^^^ b) = bitN k a ^^^ bitN k b := by
  induction k generalizing a b with
  | zero => rfl
  | succ k ih => show bitN k (bit1 (a ^^^ b)) = _; rw [bit1_xor, ih]; rfl
theorem bit1_twice (a : Nat) : bit1 (2 * a) = a := by
  unfold bit1
  rw [if_neg (by omega)]
  omega
theorem split16 (x : Nat) : x = 16 * (x / 16) ^^^ x % 16 := by
  have h := Nat.two_pow_add_eq_or_of_lt (i := 4) (b := x % 16) (by omega) (x / 16)
  have h2 : (16 * (x / 16) ||| x % 16) = (16 * (x / 16) ^^^ x % 16) := by
    refine Nat.eq_of_testBit_eq fun i => ?_
    rw [Nat.testBit_or, Nat.testBit_xor]
    by_cases hi : i < 4
    · have : Nat.testBit (16 * (x / 16)) i = false := by
        rw [show (16 : Nat) = 2 ^ 4 from rfl, Nat.testBit_two_pow_mul]
        simp; omega
      rw [this]; simp
    · have : Nat.testBit (x % 16) i = false := Nat.testBit_lt_two_pow (Nat.lt_of_lt_of_le (by omega : x % 16 < 2 ^ 4) (Nat.pow_le_pow_right (by omega) (by omega)))
      rw [this]; simp
  rw [← h2]
  have h3 : x = 2 ^ 4 * (x / 16) + x % 16 := by omega
  rw [h] at h3
  exact h3

/-- The table of half bytes. -/
def halfTab : List Nat := [0, 1166650509, 2333301018, 3466261911, 3189058079, 4221339282, 889615109, 1888477064, 3558460437, 2442158232, 1594529039, 444807554, 1779230218, 797264519, 3776954128, 2761298845]

theorem half_ok (r : Nat) (h : r < 16) : bitN 4 r = halfTab.getD r 0 := by
  have : ∀ r : Fin 16, bitN 4 r.val = halfTab.getD r.val 0 := by decide
  exact this ⟨r, h⟩
theorem half4 (x : Nat) : bitN 4 x = x / 16 ^^^ halfTab.getD (x % 16) 0 := by
  rw [← half_ok _ (by omega)]
  conv => lhs; rw [split16 x, bitN_xor]
  congr 1
  have h : 16 * (x / 16) = 2 * (2 * (2 * (2 * (x / 16)))) := by omega
  rw [h]
  show bit1 (bit1 (bit1 (bit1 _))) = _
  rw [bit1_twice, bit1_twice, bit1_twice, bit1_twice]
theorem half_lt (r : Nat) (h : r < 16) : halfTab.getD r 0 < 4294967296 := by
  have : ∀ r : Fin 16, halfTab.getD r.val 0 < 4294967296 := by decide
  exact this ⟨r, h⟩
theorem byte_halves (x : Nat) (b : UInt8) : sum1 x b = bitN 4 (bitN 4 (x ^^^ b.toNat)) := bitN_add 4 4 _

theorem bit1_lt {x : Nat} (h : x < 4294967296) : bit1 x < 4294967296 := by
  unfold bit1
  split
  · exact Nat.xor_lt_two_pow (n := 32) (by omega) (by omega)
  · omega
theorem bitN_lt (k : Nat) {x : Nat} (h : x < 4294967296) : bitN k x < 4294967296 := by
  induction k generalizing x with
  | zero => exact h
  | succ k ih => exact ih (bit1_lt h)
theorem xor_byte_lt {x : Nat} (b : UInt8) (h : x < 4294967296) : x ^^^ b.toNat < 4294967296 :=
  Nat.xor_lt_two_pow (n := 32) (by omega) (by have := b.toNat_lt; omega)
theorem sum1_lt {x : Nat} (b : UInt8) (h : x < 4294967296) : sum1 x b < 4294967296 := bitN_lt 8 (xor_byte_lt b h)
theorem sumL_lt (l : List UInt8) {x : Nat} (h : x < 4294967296) : sumL x l < 4294967296 := by
  induction l generalizing x with
  | nil => exact h
  | cons b l ih => exact ih (sum1_lt b h)

theorem bit1_inj {a b : Nat} (ha : a < 4294967296) (hb : b < 4294967296) (h : bit1 a = bit1 b) : a = b := by
  have top : ∀ x y : Nat, x < 4294967296 → y < 4294967296 → x / 2 ^^^ 3558460437 = y / 2 → False := fun x y hx hy e => by
    have e2 : (3558460437 : Nat) = x / 2 ^^^ y / 2 := by rw [← e, ← Nat.xor_assoc, Nat.xor_self, Nat.zero_xor]
    have := Nat.xor_lt_two_pow (n := 31) (x := x / 2) (y := y / 2) (by omega) (by omega)
    omega
  unfold bit1 at h
  split at h <;> split at h
  · have := xor_drop_right h
    omega
  · exact (top a b ha hb h).elim
  · exact (top b a hb ha h.symm).elim
  · omega
theorem bitN_inj (k : Nat) {a b : Nat} (ha : a < 4294967296) (hb : b < 4294967296) (h : bitN k a = bitN k b) : a = b := by
  induction k generalizing a b with
  | zero => exact h
  | succ k ih => exact bit1_inj ha hb (ih (bit1_lt ha) (bit1_lt hb) h)
theorem sum1_inj {x y : Nat} (b : UInt8) (hx : x < 4294967296) (hy : y < 4294967296) (h : sum1 x b = sum1 y b) : x = y :=
  xor_drop_right (bitN_inj 8 (xor_byte_lt b hx) (xor_byte_lt b hy) h)
theorem sum1_byte {x : Nat} {b c : UInt8} (hx : x < 4294967296) (h : sum1 x b = sum1 x c) : b = c := by
  have := xor_drop_left (bitN_inj 8 (xor_byte_lt b hx) (xor_byte_lt c hx) h)
  exact UInt8.toNat_inj.1 this
theorem sumL_inj (l : List UInt8) {x y : Nat} (hx : x < 4294967296) (hy : y < 4294967296) (h : sumL x l = sumL y l) : x = y := by
  induction l generalizing x y with
  | nil => exact h
  | cons b l ih => exact sum1_inj b hx hy (ih (sum1_lt b hx) (sum1_lt b hy) h)
/-- Another byte at one place is another sum. -/
theorem sumL_set (l : List UInt8) {x : Nat} (hx : x < 4294967296) (i : Nat) (hi : i < l.length) (c : UInt8) (h : sumL x (l.set i c) = sumL x l) : c = l[i] := by
  induction l generalizing x i with
  | nil => simp at hi
  | cons b l ih =>
    cases i with
    | zero => exact sum1_byte hx (sumL_inj l (sum1_lt c hx) (sum1_lt b hx) h)
    | succ i => exact ih (sum1_lt b hx) i (by simpa using hi) h
theorem sumL_append (l m : List UInt8) (x : Nat) : sumL x (l ++ m) = sumL (sumL x l) m := by
  induction l generalizing x with
  | nil => rfl
  | cons b l ih => exact ih (sum1 x b)

theorem take_snoc (s : ByteArray) (k : Nat) (h : k < s.size) : s.data.toList.take (k + 1) = s.data.toList.take k ++ [s[k]] := by
  have hk : k < s.data.toList.length := by simpa using h
  rw [List.take_succ_eq_append_getElem hk]
  rfl
/-- The sum behind the first k bytes. -/
def upto (x : Nat) (s : ByteArray) (k : Nat) : Nat := sumL x (s.data.toList.take k)
theorem upto_zero (x : Nat) (s : ByteArray) : upto x s 0 = x := rfl
theorem upto_succ (x : Nat) (s : ByteArray) (k : Nat) (h : k < s.size) : upto x s (k + 1) = bitN 4 (bitN 4 (upto x s k ^^^ s[k].toNat)) := by
  unfold upto
  rw [take_snoc s k h, sumL_append, ← byte_halves]
  rfl
theorem upto_succ8 (x : Nat) (s : ByteArray) (k : Nat) (h : k < s.size) : upto x s (k + 1) = bitN 8 (upto x s k ^^^ s[k].toNat) := by
  unfold upto
  rw [take_snoc s k h, sumL_append]
  rfl
theorem upto_all (x : Nat) (s : ByteArray) : upto x s s.size = sumL x s.data.toList := by
  unfold upto
  rw [List.take_of_length_le (by simp)]
theorem upto_lt (s : ByteArray) (k : Nat) {x : Nat} (h : x < 4294967296) : upto x s k < 4294967296 := sumL_lt _ h
/-- The table, behind a name. -/
def half (r : Nat) : Nat := halfTab.getD r 0

/-- The four bytes of a sum, the highest first. -/
def four (x : Nat) : List UInt8 := [UInt8.ofNat (x / 16777216), UInt8.ofNat (x / 65536), UInt8.ofNat (x / 256), UInt8.ofNat x]
theorem four_inj {x y : Nat} (hx : x < 4294967296) (hy : y < 4294967296) (h : four x = four y) : x = y := by
  unfold four at h
  simp only [List.cons.injEq, and_true] at h
  obtain ⟨h1, h2, h3, h4⟩ := h
  have e1 := congrArg UInt8.toNat h1
  have e2 := congrArg UInt8.toNat h2
  have e3 := congrArg UInt8.toNat h3
  have e4 := congrArg UInt8.toNat h4
  simp only [UInt8.toNat_ofNat'] at e1 e2 e3 e4
  omega
theorem four_length (x : Nat) : (four x).length = 4 := rfl

/-- A sealed text with one byte turned does not bear its own sum. -/
theorem turned_false (s : List UInt8) (i : Nat) (c : UInt8) (hi : i < (s ++ four (sumL 4294967295 s)).length) (hc : c ≠ (s ++ four (sumL 4294967295 s))[i]) :
    four (sumL 4294967295 (((s ++ four (sumL 4294967295 s)).set i c).take s.length)) ≠ ((s ++ four (sumL 4294967295 s)).set i c).drop s.length := by
  intro h
  by_cases hs : i < s.length
  · rw [List.set_append_left _ _ hs, List.take_left' (by simp), List.drop_left' (by simp)] at h
    have := four_inj (sumL_lt _ (by omega)) (sumL_lt _ (by omega)) h
    have e := sumL_set s (x := 4294967295) (by omega) i hs c this
    rw [List.getElem_append_left hs] at hc
    exact hc e
  · rw [List.set_append_right _ _ (by omega), List.take_left' rfl, List.drop_left' rfl] at h
    have hl : i - s.length < (four (sumL 4294967295 s)).length := by rw [List.length_append] at hi; omega
    rw [List.getElem_append_right (by omega)] at hc
    have e : ((four (sumL 4294967295 s)).set (i - s.length) c)[i - s.length]'(by rw [List.length_set]; exact hl) = c := List.getElem_set_self _
    apply hc
    rw [← e]
    simp only [← h]

end Go.Proofs.YtpehnhmbkhlmaaaDoor
