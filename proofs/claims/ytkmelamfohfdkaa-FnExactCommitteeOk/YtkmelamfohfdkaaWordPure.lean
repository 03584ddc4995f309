/-
  Words of 64 bits as plain mathematics: a word of eight bytes, the bytes of a word, a word turned.
-/
import Derived.Laws.BitsAllLaws
namespace Go.Proofs.Ytkmelamfohfdkaa

/-- A word as a number. -/
def wv (x : BitVec 64) : Int := (x.toNat : Int)

theorem ofInt_wv (x : BitVec 64) : BitVec.ofInt 64 (wv x) = x := by
  unfold wv; rw [BitVec.ofInt_natCast]; simp
theorem wrap_wv (n : Nat) (h : n < 18446744073709551616) : IntKind.u64.wrap (n : Int) = (n : Int) := by
  simp [IntKind.wrap, IntKind.bits, IntKind.signed]; omega
theorem wv_lt (x : BitVec 64) : wv x < 18446744073709551616 := by unfold wv; have := x.isLt; omega
theorem wv_nonneg (x : BitVec 64) : 0 ≤ wv x := by unfold wv; omega
theorem wv_zero : wv 0#64 = 0 := rfl
theorem wv_ofNat {n : Nat} (h : n < 18446744073709551616) : wv (BitVec.ofNat 64 n) = (n : Int) := by
  unfold wv; rw [BitVec.toNat_ofNat]; congr 1; exact Nat.mod_eq_of_lt h
theorem wv_inj {x y : BitVec 64} (h : wv x = wv y) : x = y := by
  unfold wv at h; exact BitVec.eq_of_toNat_eq (by omega)

theorem wv_xor (x y : BitVec 64) : bits .xor .u64 (wv x) (wv y) = wv (x ^^^ y) := by
  show IntKind.u64.wrap (((BitVec.ofInt 64 (wv x)) ^^^ (BitVec.ofInt 64 (wv y))).toNat : Int) = _
  rw [ofInt_wv, ofInt_wv, wrap_wv _ (BitVec.isLt _)]; rfl
theorem wv_or (x y : BitVec 64) : bits .or .u64 (wv x) (wv y) = wv (x ||| y) := by
  show IntKind.u64.wrap (((BitVec.ofInt 64 (wv x)) ||| (BitVec.ofInt 64 (wv y))).toNat : Int) = _
  rw [ofInt_wv, ofInt_wv, wrap_wv _ (BitVec.isLt _)]; rfl
theorem wv_and (x y : BitVec 64) : bits .and .u64 (wv x) (wv y) = wv (x &&& y) := by
  show IntKind.u64.wrap (((BitVec.ofInt 64 (wv x)) &&& (BitVec.ofInt 64 (wv y))).toNat : Int) = _
  rw [ofInt_wv, ofInt_wv, wrap_wv _ (BitVec.isLt _)]; rfl
theorem wv_ones : (18446744073709551615 : Int) = wv (BitVec.allOnes 64) := by decide
theorem wv_not (x : BitVec 64) : bits .xor .u64 18446744073709551615 (wv x) = wv (~~~ x) := by
  rw [wv_ones, wv_xor, BitVec.allOnes_xor]
theorem wv_not' (x : BitVec 64) : bits .xor .u64 (wv x) 18446744073709551615 = wv (~~~ x) := by
  rw [wv_ones, wv_xor, BitVec.xor_allOnes]
theorem wv_shl (x : BitVec 64) (n : Nat) : IntKind.u64.wrap (wv x * 2 ^ n) = wv (x <<< n) := by
  unfold wv
  rw [BitVec.toNat_shiftLeft, Nat.shiftLeft_eq]
  simp [IntKind.wrap, IntKind.bits, IntKind.signed]
theorem wv_shr (x : BitVec 64) (n : Nat) : wv x / 2 ^ n = wv (x >>> n) := by
  unfold wv
  rw [BitVec.toNat_ushiftRight, Nat.shiftRight_eq_div_pow]
  simp

/-- A word turned by n, below 64. -/
def rotl (x : BitVec 64) (n : Nat) : BitVec 64 := (x <<< n) ||| (x >>> (64 - n))
theorem rotl_zero (x : BitVec 64) : rotl x 0 = x := by
  unfold rotl; ext i hi; simp
theorem rotl_of_zero (n : Nat) : rotl 0#64 n = 0#64 := by
  unfold rotl; ext i hi; simp
theorem rotl_bit (x : BitVec 64) (n : Nat) (hn : n < 64) (i : Nat) (hi : i < 64) : (rotl x n).getLsbD i = x.getLsbD ((i + 64 - n) % 64) := by
  unfold rotl
  simp only [BitVec.getLsbD_or, BitVec.getLsbD_shiftLeft, BitVec.getLsbD_ushiftRight, hi, decide_true, Bool.true_and]
  by_cases h : i < n
  · rw [show (i + 64 - n) % 64 = 64 - n + i by omega]; simp [h]
  · rw [show (i + 64 - n) % 64 = i - n by omega, BitVec.getLsbD_of_ge x (64 - n + i) (by omega)]; simp [h]
theorem rotl_back (x : BitVec 64) (n : Nat) (hn : n < 64) : rotl (rotl x n) ((64 - n) % 64) = x := by
  apply BitVec.eq_of_getLsbD_eq
  intro i hi
  rw [rotl_bit _ _ (by omega) _ hi, rotl_bit _ _ hn _ (by omega)]
  congr 1
  by_cases h0 : n = 0
  · subst h0; omega
  · rw [show (64 - n) % 64 = 64 - n by omega]
    by_cases h : i + n < 64
    · rw [show (i + 64 - (64 - n)) % 64 = i + n by omega]; omega
    · rw [show (i + 64 - (64 - n)) % 64 = i + n - 64 by omega]; omega

/-- Byte i of a text, as a word. -/
def byW (l : List UInt8) (i : Nat) : BitVec 64 := BitVec.ofNat 64 (l.getD i 0).toNat
/-- The word of the eight bytes from place a on, the first k of them; the lowest first. -/
def wordK (l : List UInt8) (a : Nat) : Nat → BitVec 64
  | 0 => 0#64
  | k + 1 => wordK l a k ||| (byW l (a + k) <<< (8 * k))
def wordAt (l : List UInt8) (a : Nat) : BitVec 64 := wordK l a 8
/-- The same from the last byte on. -/
def backK (l : List UInt8) (a : Nat) : Nat → BitVec 64
  | 0 => 0#64
  | k + 1 => (backK l a k <<< 8) ||| byW l (a + (7 - k))

theorem byW_bit (l : List UInt8) (i j : Nat) : (byW l i).getLsbD j = (l.getD i 0).toNat.testBit j := by
  unfold byW
  rw [BitVec.getLsbD_ofNat]
  by_cases h : j < 64
  · simp [h]
  · have : (l.getD i 0).toNat.testBit j = false := Nat.testBit_lt_two_pow (Nat.lt_of_lt_of_le (UInt8.toNat_lt _) (Nat.pow_le_pow_right (by omega) (show 8 ≤ j by omega)))
    rw [this]; simp [h]
theorem byte_high (b : UInt8) (j : Nat) (h : 8 ≤ j) : b.toNat.testBit j = false :=
  Nat.testBit_lt_two_pow (Nat.lt_of_lt_of_le (UInt8.toNat_lt _) (Nat.pow_le_pow_right (by omega) h))

theorem wordK_bit (l : List UInt8) (a k : Nat) (hk : k ≤ 8) (j : Nat) (hj : j < 64) :
    (wordK l a k).getLsbD j = (decide (j < 8 * k) && (l.getD (a + j / 8) 0).toNat.testBit (j % 8)) := by
  induction k with
  | zero => simp [wordK]
  | succ k ih =>
    show (wordK l a k ||| (byW l (a + k) <<< (8 * k))).getLsbD j = _
    rw [BitVec.getLsbD_or, ih (by omega), BitVec.getLsbD_shiftLeft, byW_bit]
    by_cases h1 : j < 8 * k
    · simp [h1, show j < 8 * (k + 1) by omega]
    · by_cases h2 : j < 8 * (k + 1)
      · rw [show j / 8 = k by omega, show j % 8 = j - 8 * k by omega]; simp [h1, h2, hj]
      · rw [byte_high _ _ (show 8 ≤ j - 8 * k by omega)]; simp [h1, h2]
theorem wordAt_bit (l : List UInt8) (a j : Nat) (hj : j < 64) : (wordAt l a).getLsbD j = (l.getD (a + j / 8) 0).toNat.testBit (j % 8) := by
  rw [wordAt, wordK_bit l a 8 (by omega) j hj]; simp [hj]
theorem backK_bit (l : List UInt8) (a k : Nat) (hk : k ≤ 8) (j : Nat) (hj : j < 64) :
    (backK l a k).getLsbD j = (decide (j < 8 * k) && (l.getD (a + (8 - k) + j / 8) 0).toNat.testBit (j % 8)) := by
  induction k generalizing j with
  | zero => simp [backK]
  | succ k ih =>
    show ((backK l a k <<< 8) ||| byW l (a + (7 - k))).getLsbD j = _
    rw [BitVec.getLsbD_or, BitVec.getLsbD_shiftLeft, byW_bit]
    by_cases h1 : j < 8
    · rw [show a + (8 - (k + 1)) + j / 8 = a + (7 - k) by omega, show j % 8 = j by omega]; simp [h1, show j < 8 * (k + 1) by omega]
    · rw [ih (by omega) (j - 8) (by omega), byte_high _ _ (show 8 ≤ j by omega),
        show a + (8 - (k + 1)) + j / 8 = a + (8 - k) + (j - 8) / 8 by omega, show j % 8 = (j - 8) % 8 by omega]
      by_cases h2 : j < 8 * (k + 1)
      · simp [h1, h2, hj, show j - 8 < 8 * k by omega]
      · simp [h1, h2, hj, show ¬ (j - 8 < 8 * k) by omega]
theorem backK_all (l : List UInt8) (a : Nat) : backK l a 8 = wordAt l a := by
  apply BitVec.eq_of_getLsbD_eq
  intro j hj
  rw [backK_bit l a 8 (by omega) j hj, wordAt_bit l a j hj]; simp [hj]

/-- Byte i of a word. -/
def byteOf (x : BitVec 64) (i : Nat) : UInt8 := UInt8.ofNat (x >>> (8 * i)).toNat
/-- The first k bytes of a word. -/
def bytesOf (x : BitVec 64) (k : Nat) : List UInt8 := (List.range k).map (byteOf x)
theorem bytesOf_succ (x : BitVec 64) (k : Nat) : bytesOf x (k + 1) = bytesOf x k ++ [byteOf x k] := by
  simp [bytesOf, List.range_succ]
theorem bytesOf_length (x : BitVec 64) (k : Nat) : (bytesOf x k).length = k := by simp [bytesOf]
theorem byteOf_bit (x : BitVec 64) (i j : Nat) : (byteOf x i).toNat.testBit j = (decide (j < 8) && x.getLsbD (8 * i + j)) := by
  unfold byteOf
  rw [UInt8.toNat_ofNat', Nat.testBit_mod_two_pow, BitVec.toNat_ushiftRight, Nat.testBit_shiftRight]
  rfl
theorem byteOf_wrap (x : BitVec 64) (i : Nat) : IntKind.u8.wrap (wv (x >>> (8 * i))) = ((byteOf x i).toNat : Int) := by
  unfold byteOf wv
  rw [IntKind.wrap_u8', UInt8.toNat_ofNat']; omega
theorem byte_ext {a b : UInt8} (h : ∀ j, j < 8 → a.toNat.testBit j = b.toNat.testBit j) : a = b := by
  apply UInt8.toNat_inj.1
  apply Nat.eq_of_testBit_eq
  intro j
  by_cases hj : j < 8
  · exact h j hj
  · rw [byte_high a j (by omega), byte_high b j (by omega)]
theorem bytesOf_getD (x : BitVec 64) (k i : Nat) (h : i < k) : (bytesOf x k).getD i 0 = byteOf x i := by
  simp [bytesOf, List.getD_eq_getElem?_getD, h]
theorem wordAt_bytesOf (x : BitVec 64) : wordAt (bytesOf x 8) 0 = x := by
  apply BitVec.eq_of_getLsbD_eq
  intro j hj
  rw [wordAt_bit _ _ j hj, bytesOf_getD _ _ _ (by omega), byteOf_bit]
  rw [show 8 * (0 + j / 8) + j % 8 = j by omega]
  simp; omega
theorem bytesOf_wordAt (l : List UInt8) (h : l.length = 8) : bytesOf (wordAt l 0) 8 = l := by
  apply List.ext_getElem?
  intro i
  by_cases hi : i < 8
  · rw [List.getElem?_eq_getElem (by simpa [bytesOf_length] using hi), List.getElem?_eq_getElem (by omega)]
    congr 1
    apply byte_ext
    intro j hj
    have e1 : (bytesOf (wordAt l 0) 8)[i]'(by simpa [bytesOf_length] using hi) = byteOf (wordAt l 0) i := by simp [bytesOf]
    rw [e1, byteOf_bit, wordAt_bit _ _ _ (by omega), show (8 * i + j) % 8 = j by omega, show 0 + (8 * i + j) / 8 = i by omega]
    simp [hj, List.getD_eq_getElem?_getD, h, hi]
  · rw [List.getElem?_eq_none (by simp [bytesOf_length]; omega), List.getElem?_eq_none (by omega)]

end Go.Proofs.Ytkmelamfohfdkaa
