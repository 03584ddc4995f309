/-
  Texts of one's own, joined.
-/
import Derived.Test.YtkmelamfohfdkabDoorJoined9
import Derived.Laws.BitsAllLaws

/-
  Points as the program and the specification tell of them: right ones, sums, so often.
-/
namespace Go.Proofs.YtkmelamfohfdkabDoor

/-- Whether a point is right. -/
def pOkB (P : Pt) : Bool := if P.2.2 = true then (P.1 == 0 && P.2.1 == 0) else (fpOk P.1 && fpOk P.2.1 && fpMul P.2.1 P.2.1 == rhs P.1)

theorem pokB {P : Pt} : pOkB P = true ↔ POk P := by
  obtain ⟨x, y, z⟩ := P
  unfold pOkB POk pZ
  cases z
  · simp [fpOk, wc_rhs, and_assoc]
  · simp

/-- The sum of two points, whatever they are. -/
def pSum (P Q : Pt) : Pt := if pOkB P && pOkB Q then pAdd P Q else pZ
theorem psum_ok (P Q : Pt) : POk (pSum P Q) := by
  unfold pSum
  split
  · rename_i h
    rw [Bool.and_eq_true] at h
    exact padd_ok (pokB.1 h.1) (pokB.1 h.2)
  · exact pz_ok
theorem psum_eq {P Q : Pt} (hP : POk P) (hQ : POk Q) : pSum P Q = pAdd P Q := by
  unfold pSum
  rw [pokB.2 hP, pokB.2 hQ]
  rfl

/-- A point so often, whatever it is. -/
def pTimes (k : Int) (P : Pt) : Pt :=
  if pOkB P = true then (if Int.tmod k 12108 < 0 then pMul (pNeg P) (Int.tmod k 12108).natAbs else pMul P (Int.tmod k 12108).natAbs) else pZ
theorem ptimes_ok (k : Int) (P : Pt) : POk (pTimes k P) := by
  unfold pTimes
  split
  · rename_i h
    split
    · exact pmul_ok (pneg_ok (pokB.1 h)) _
    · exact pmul_ok (pokB.1 h) _
  · exact pz_ok
theorem ptimes_nat {P : Pt} (h : POk P) (n : Nat) : pTimes (n : Int) P = pMul P (n % 12108) := by
  unfold pTimes
  rw [if_pos (pokB.2 h), Int.tmod_eq_emod_of_nonneg (by omega), if_neg (by omega)]
  congr 1
theorem ptimes_small {P : Pt} (h : POk P) {n : Nat} (hn : n < 12108) : pTimes (n : Int) P = pMul P n := by
  rw [ptimes_nat h, Nat.mod_eq_of_lt hn]

/-- Whether a point is in the group. -/
def inGB (P : Pt) : Bool := pOkB P && (pTimes 1009 P).2.2
theorem ing_iff {P : Pt} : inGB P = true ↔ POk P ∧ pMul P 1009 = pZ := by
  unfold inGB
  rw [Bool.and_eq_true, pokB]
  constructor
  · rintro ⟨h1, h2⟩
    refine ⟨h1, ?_⟩
    have e := ptimes_small h1 (n := 1009) (by decide)
    have h3 : (pMul P 1009).2.2 = true := by rw [← e]; exact h2
    rcases pmul_ok h1 1009 with h4 | ⟨h4, _⟩
    · exact h4
    · rw [h4] at h3; cases h3
  · rintro ⟨h1, h2⟩
    have e := ptimes_small h1 (n := 1009) (by decide)
    exact ⟨h1, by show (pTimes ((1009 : Nat) : Int) P).2.2 = true; rw [e, h2]; rfl⟩

/-- All put together, in order. -/
def pSumList (l : List Pt) : Pt := l.foldl pSum pZ

/-- A round of the doubling. -/
theorem dbl_odd {R B : Pt} (hR : POk R) (hB : POk B) {n : Nat} (h : n % 2 = 1) : pAdd (pAdd R B) (pMul (pAdd B B) (n / 2)) = pAdd R (pMul B n) := by
  have e : pAdd B B = pMul B 2 := by rw [pmul_add hB 1 1, pmul_one]
  rw [e, pmul_mul hB, padd_assoc hR hB (pmul_ok hB _)]
  congr 1
  have : pMul B n = pMul B (1 + 2 * (n / 2)) := by rw [show 1 + 2 * (n / 2) = n by omega]
  rw [this, pmul_add hB, pmul_one]
theorem dbl_even {R B : Pt} (hB : POk B) {n : Nat} (h : n % 2 = 0) : pAdd R (pMul (pAdd B B) (n / 2)) = pAdd R (pMul B n) := by
  have e : pAdd B B = pMul B 2 := by rw [pmul_add hB 1 1, pmul_one]
  rw [e, pmul_mul hB, show 2 * (n / 2) = n by omega]

/-- A point in bytes. -/
def ptBytes (P : Pt) : List UInt8 :=
  if pOkB P = true then (if P.2.2 = true then [0, 0, 0] else [UInt8.ofNat ((P.1.toNat + 1) / 256), UInt8.ofNat ((P.1.toNat + 1) % 256), UInt8.ofNat (P.2.1.toNat % 2)]) else []
def ptText (P : Pt) : ByteArray := ⟨(ptBytes P).toArray⟩

/-- The Y of three bytes' root: turned where it is not as the last byte tells. -/
def rdY (x : Int) (c : UInt8) : Int := if rootV (rhs x) % 2 = (c.toNat : Int) then rootV (rhs x) else fpSub 0 (rootV (rhs x))
/-- The point whose text three bytes are, and whether there is one. -/
def rd3 (a b c : UInt8) : Pt × Bool :=
  if a = 0 ∧ b = 0 ∧ c = 0 then (pZ, true)
  else if fpOk ((a.toNat : Int) * 256 + b.toNat - 1) = true ∧ c.toNat ≤ 1 then
    (if rootB (rhs ((a.toNat : Int) * 256 + b.toNat - 1)) = true then
      (if ptText ((a.toNat : Int) * 256 + b.toNat - 1, rdY ((a.toNat : Int) * 256 + b.toNat - 1) c, false) = ⟨#[a, b, c]⟩ then (((a.toNat : Int) * 256 + b.toNat - 1, rdY ((a.toNat : Int) * 256 + b.toNat - 1) c, false), true) else ((0, 0, false), false))
    else ((0, 0, false), false))
  else ((0, 0, false), false)
def rdPt (t : ByteArray) : Pt × Bool :=
  match t.data.toList with
  | [a, b, c] => rd3 a b c
  | _ => ((0, 0, false), false)

theorem rdPt_size {t : ByteArray} (h : t.size ≠ 3) : rdPt t = ((0, 0, false), false) := by
  unfold rdPt
  split
  · rename_i a b c e
    refine absurd ?_ h
    show t.data.size = 3
    rw [← Array.length_toList, e]; rfl
  · rfl
theorem bytes3 {t : ByteArray} (h : t.size = 3) : ∃ a b c, t = ⟨#[a, b, c]⟩ := by
  obtain ⟨d⟩ := t
  obtain ⟨l⟩ := d
  have h' : l.length = 3 := h
  match l, h' with
  | [a, b, c], _ => exact ⟨a, b, c, rfl⟩

/-- What is read is a right point, and the text is its. -/
theorem rdPt_text {t : ByteArray} (h : (rdPt t).2 = true) : ptText (rdPt t).1 = t := by
  by_cases hs : t.size = 3
  · obtain ⟨a, b, c, rfl⟩ := bytes3 hs
    show ptText (rd3 a b c).1 = _
    have h' : (rd3 a b c).2 = true := h
    unfold rd3 at h' ⊢
    split at h'
    · rename_i h0
      obtain ⟨rfl, rfl, rfl⟩ := h0
      rfl
    · rename_i h0
      rw [if_neg h0]
      split at h'
      · rename_i h1
        rw [if_pos h1]
        split at h'
        · rename_i h2
          rw [if_pos h2]
          split at h'
          · rename_i h3
            rw [if_pos h3]; exact h3
          · cases h'
        · cases h'
      · cases h'
  · rw [rdPt_size hs] at h; cases h

theorem u8_toNat {n : Nat} (h : n < 256) : (UInt8.ofNat n).toNat = n := by simp; omega

/-- A right point comes back from its text. -/
theorem rdPt_back {P : Pt} (h : POk P) : rdPt (ptText P) = (P, true) := by
  have hb := pokB.2 h
  rcases h with rfl | ⟨h1, h2, h3, h4⟩
  · rfl
  · obtain ⟨x, y, z⟩ := P
    simp only at h1 h2 h3 h4
    subst h1
    obtain ⟨X, rfl⟩ : ∃ X : Nat, x = X := ⟨x.toNat, by omega⟩
    have hX : X < 12107 := by omega
    have ha : ((UInt8.ofNat ((X + 1) / 256)).toNat : Int) * 256 + (UInt8.ofNat ((X + 1) % 256)).toNat - 1 = (X : Int) := by
      rw [u8_toNat (by omega), u8_toNat (by omega)]; omega
    have hc : (UInt8.ofNat (y.toNat % 2)).toNat = y.toNat % 2 := u8_toNat (by omega)
    have et : ptText ((X : Int), y, false) = ⟨#[UInt8.ofNat ((X + 1) / 256), UInt8.ofNat ((X + 1) % 256), UInt8.ofNat (y.toNat % 2)]⟩ := by
      unfold ptText ptBytes
      rw [hb]
      rfl
    have hy : rdY (X : Int) (UInt8.ofNat (y.toNat % 2)) = y ∧ rootB (rhs (X : Int)) = true := by
      have hr := rhs_in (X : Int)
      have hq := wc_rhs.1 h4
      by_cases hv0 : y = 0
      · subst hv0
        have hz : rhs (X : Int) = 0 := by rw [← hq]; rfl
        unfold rdY
        rw [hz]
        exact ⟨by decide +kernel, by decide +kernel⟩
      · obtain ⟨k, rfl⟩ : ∃ k : Nat, y = k := ⟨y.toNat, by omega⟩
        have hs := root_square (n := k) (by omega) (by omega)
        rw [hq] at hs
        refine ⟨?_, hs.1⟩
        have ht := root_right' hr.1 hr.2 hs.1
        have hv := rootV_in (n := rhs (X : Int))
        unfold rdY
        rw [hc]
        rcases roots_two h3 hv (hq.trans ht.symm) with e | e
        · rw [← e, if_pos (by simp)]
        · have hne : rootV (rhs (X : Int)) ≠ 0 := fun e0 => by
            rw [e0] at e
            have : fpSub 0 0 = 0 := by decide
            omega
          have e' : (k : Int) = 12107 - rootV (rhs (X : Int)) := by
            rw [e]
            rw [fpSub_eq]
            unfold fp
            omega
          rw [if_neg (by rw [Int.toNat_natCast]; omega), ← e]
    rw [et]
    show rd3 _ _ _ = _
    unfold rd3
    rw [ha, hy.1, et]
    have hok : fpOk (X : Int) = true := decide_eq_true ⟨by omega, by omega⟩
    have hn0 : ¬ (UInt8.ofNat ((X + 1) / 256) = 0 ∧ UInt8.ofNat ((X + 1) % 256) = 0 ∧ UInt8.ofNat (y.toNat % 2) = 0) := by
      rintro ⟨e1, e2, _⟩
      have f1 := congrArg UInt8.toNat e1
      have f2 := congrArg UInt8.toNat e2
      rw [u8_toNat (by omega)] at f1
      rw [u8_toNat (by omega)] at f2
      have g1 : (X + 1) / 256 = 0 := f1
      have g2 : (X + 1) % 256 = 0 := f2
      omega
    rw [if_neg hn0, if_pos ⟨hok, by rw [hc]; omega⟩, if_pos hy.2, if_pos rfl]

end Go.Proofs.YtkmelamfohfdkabDoor

/-
  Words of 64 bits as plain mathematics: a word of eight bytes, the bytes of a word, a word turned.
-/
namespace Go.Proofs.YtkmelamfohfdkabDoor

/-- A word as a number. -/
def wv (x : BitVec 64) : Int := (x.toNat : Int)

theorem ofInt_wv (x : BitVec 64) : BitVec.ofInt 64 (wv x) = x := by
  unfold wv; rw [BitVec.ofInt_natCast]; simp
theorem wrap_wv (n : Nat) (h : n < 18446744073709551616) : IntKind.u64.wrap (n : Int) = (n : Int) := by
  simp [IntKind.wrap, IntKind.bits, IntKind.signed]; omega
theorem wv_lt (x : BitVec 64) : wv x < 18446744073709551616 := by unfold wv; have := x.isLt; omega
theorem wv_nonneg (x : BitVec 64) : 0 ≤ wv x := by unfold wv; omega
theorem wv_zero : wv 0#64 = 0 := rfl
theorem wv_ofNat {n : Nat} (h : n < 18446744073709551616) : wv (BitVec.ofNat 64 n) = (n : Int) := by
  unfold wv; rw [BitVec.toNat_ofNat]; congr 1; exact Nat.mod_eq_of_lt h
theorem wv_inj {x y : BitVec 64} (h : wv x = wv y) : x = y := by
  unfold wv at h; exact BitVec.eq_of_toNat_eq (by omega)

theorem wv_xor (x y : BitVec 64) : bits .xor .u64 (wv x) (wv y) = wv (x ^^^ y) := by
  show IntKind.u64.wrap (((BitVec.ofInt 64 (wv x)) ^^^ (BitVec.ofInt 64 (wv y))).toNat : Int) = _
  rw [ofInt_wv, ofInt_wv, wrap_wv _ (BitVec.isLt _)]; rfl
theorem wv_or (x y : BitVec 64) : bits .or .u64 (wv x) (wv y) = wv (x ||| y) := by
  show IntKind.u64.wrap (((BitVec.ofInt 64 (wv x)) ||| (BitVec.ofInt 64 (wv y))).toNat : Int) = _
  rw [ofInt_wv, ofInt_wv, wrap_wv _ (BitVec.isLt _)]; rfl
theorem wv_and (x y : BitVec 64) : bits .and .u64 (wv x) (wv y) = wv (x &&& y) := by
  show IntKind.u64.wrap (((BitVec.ofInt 64 (wv x)) &&& (BitVec.ofInt 64 (wv y))).toNat : Int) = _
  rw [ofInt_wv, ofInt_wv, wrap_wv _ (BitVec.isLt _)]; rfl
theorem wv_ones : (18446744073709551615 : Int) = wv (BitVec.allOnes 64) := by decide
theorem wv_not (x : BitVec 64) : bits .xor .u64 18446744073709551615 (wv x) = wv (~~~ x) := by
  rw [wv_ones, wv_xor, BitVec.allOnes_xor]
theorem wv_not' (x : BitVec 64) : bits .xor .u64 (wv x) 18446744073709551615 = wv (~~~ x) := by
  rw [wv_ones, wv_xor, BitVec.xor_allOnes]
theorem wv_shl (x : BitVec 64) (n : Nat) : IntKind.u64.wrap (wv x * 2 ^ n) = wv (x <<< n) := by
  unfold wv
  rw [BitVec.toNat_shiftLeft, Nat.shiftLeft_eq]
  simp [IntKind.wrap, IntKind.bits, IntKind.signed]
theorem wv_shr (x : BitVec 64) (n : Nat) : wv x / 2 ^ n = wv (x >>> n) := by
  unfold wv
  rw [BitVec.toNat_ushiftRight, Nat.shiftRight_eq_div_pow]
  simp

/-- A word turned by n, below 64. -/
def rotl (x : BitVec 64) (n : Nat) : BitVec 64 := (x <<< n) ||| (x >>> (64 - n))
theorem rotl_zero (x : BitVec 64) : rotl x 0 = x := by
  unfold rotl; ext i hi; simp
theorem rotl_of_zero (n : Nat) : rotl 0#64 n = 0#64 := by
  unfold rotl; ext i hi; simp
theorem rotl_bit (x : BitVec 64) (n : Nat) (hn : n < 64) (i : Nat) (hi : i < 64) : (rotl x n).getLsbD i = x.getLsbD ((i + 64 - n) % 64) := by
  unfold rotl
  simp only [BitVec.getLsbD_or, BitVec.getLsbD_shiftLeft, BitVec.getLsbD_ushiftRight, hi, decide_true, Bool.true_and]
  by_cases h : i < n
  · rw [show (i + 64 - n) % 64 = 64 - n + i by omega]; simp [h]
  · rw [show (i + 64 - n) % 64 = i - n by omega, BitVec.getLsbD_of_ge x (64 - n + i) (by omega)]; simp [h]
theorem rotl_back (x : BitVec 64) (n : Nat) (hn : n < 64) : rotl (rotl x n) ((64 - n) % 64) = x := by
  apply BitVec.eq_of_getLsbD_eq
  intro i hi
  rw [rotl_bit _ _ (by omega) _ hi, rotl_bit _ _ hn _ (by omega)]
  congr 1
  by_cases h0 : n = 0
  · subst h0; omega
  · rw [show (64 - n) % 64 = 64 - n by omega]
    by_cases h : i + n < 64
    · rw [show (i + 64 - (64 - n)) % 64 = i + n by omega]; omega
    · rw [show (i + 64 - (64 - n)) % 64 = i + n - 64 by omega]; omega

/-- Byte i of a text, as a word. -/
def byW (l : List UInt8) (i : Nat) : BitVec 64 := BitVec.ofNat 64 (l.getD i 0).toNat
/-- The word of the eight bytes from place a on, the first k of them; the lowest first. -/
def wordK (l : List UInt8) (a : Nat) : Nat → BitVec 64
  | 0 => 0#64
  | k + 1 => wordK l a k ||| (byW l (a + k) <<< (8 * k))
def wordAt (l : List UInt8) (a : Nat) : BitVec 64 := wordK l a 8
/-- The same from the last byte on. -/
def backK (l : List UInt8) (a : Nat) : Nat → BitVec 64
  | 0 => 0#64
  | k + 1 => (backK l a k <<< 8) ||| byW l (a + (7 - k))

theorem byW_bit (l : List UInt8) (i j : Nat) : (byW l i).getLsbD j = (l.getD i 0).toNat.testBit j := by
  unfold byW
  rw [BitVec.getLsbD_ofNat]
  by_cases h : j < 64
  · simp [h]
  · have : (l.getD i 0).toNat.testBit j = false := Nat.testBit_lt_two_pow (Nat.lt_of_lt_of_le (UInt8.toNat_lt _) (Nat.pow_le_pow_right (by omega) (show 8 ≤ j by omega)))
    rw [this]; simp [h]
theorem byte_high (b : UInt8) (j : Nat) (h : 8 ≤ j) : b.toNat.testBit j = false :=
  Nat.testBit_lt_two_pow (Nat.lt_of_lt_of_le (UInt8.toNat_lt _) (Nat.pow_le_pow_right (by omega) h))

theorem wordK_bit (l : List UInt8) (a k : Nat) (hk : k ≤ 8) (j : Nat) (hj : j < 64) :
    (wordK l a k).getLsbD j = (decide (j < 8 * k) && (l.getD (a + j / 8) 0).toNat.testBit (j % 8)) := by
  induction k with
  | zero => simp [wordK]
  | succ k ih =>
    show (wordK l a k ||| (byW l (a + k) <<< (8 * k))).getLsbD j = _
    rw [BitVec.getLsbD_or, ih (by omega), BitVec.getLsbD_shiftLeft, byW_bit]
    by_cases h1 : j < 8 * k
    · simp [h1, show j < 8 * (k + 1) by omega]
    · by_cases h2 : j < 8 * (k + 1)
      · rw [show j / 8 = k by omega, show j % 8 = j - 8 * k by omega]; simp [h1, h2, hj]
      · rw [byte_high _ _ (show 8 ≤ j - 8 * k by omega)]; simp [h1, h2]
theorem wordAt_bit (l : List UInt8) (a j : Nat) (hj : j < 64) : (wordAt l a).getLsbD j = (l.getD (a + j / 8) 0).toNat.testBit (j % 8) := by
  rw [wordAt, wordK_bit l a 8 (by omega) j hj]; simp [hj]
theorem backK_bit (l : List UInt8) (a k : Nat) (hk : k ≤ 8) (j : Nat) (hj : j < 64) :
    (backK l a k).getLsbD j = (decide (j < 8 * k) && (l.getD (a + (8 - k) + j / 8) 0).toNat.testBit (j % 8)) := by
  induction k generalizing j with
  | zero => simp [backK]
  | succ k ih =>
    show ((backK l a k <<< 8) ||| byW l (a + (7 - k))).getLsbD j = _
    rw [BitVec.getLsbD_or, BitVec.getLsbD_shiftLeft, byW_bit]
    by_cases h1 : j < 8
    · rw [show a + (8 - (k + 1)) + j / 8 = a + (7 - k) by omega, show j % 8 = j by omega]; simp [h1, show j < 8 * (k + 1) by omega]
    · rw [ih (by omega) (j - 8) (by omega), byte_high _ _ (show 8 ≤ j by omega),
        show a + (8 - (k + 1)) + j / 8 = a + (8 - k) + (j - 8) / 8 by omega, show j % 8 = (j - 8) % 8 by omega]
      by_cases h2 : j < 8 * (k + 1)
      · simp [h1, h2, hj, show j - 8 < 8 * k by omega]
      · simp [h1, h2, hj, show ¬ (j - 8 < 8 * k) by omega]
theorem backK_all (l : List UInt8) (a : Nat) : backK l a 8 = wordAt l a := by
  apply BitVec.eq_of_getLsbD_eq
  intro j hj
  rw [backK_bit l a 8 (by omega) j hj, wordAt_bit l a j hj]; simp [hj]

/-- Byte i of a word. -/
def byteOf (x : BitVec 64) (i : Nat) : UInt8 := UInt8.ofNat (x >>> (8 * i)).toNat
/-- The first k bytes of a word. -/
def bytesOf (x : BitVec 64) (k : Nat) : List UInt8 := (List.range k).map (byteOf x)
theorem bytesOf_succ (x : BitVec 64) (k : Nat) : bytesOf x (k + 1) = bytesOf x k ++ [byteOf x k] := by
  simp [bytesOf, List.range_succ]
theorem bytesOf_length (x : BitVec 64) (k : Nat) : (bytesOf x k).length = k := by simp [bytesOf]
theorem byteOf_bit (x : BitVec 64) (i j : Nat) : (byteOf x i).toNat.testBit j = (decide (j < 8) && x.getLsbD (8 * i + j)) := by
  unfold byteOf
  rw [UInt8.toNat_ofNat', Nat.testBit_mod_two_pow, BitVec.toNat_ushiftRight, Nat.testBit_shiftRight]
  rfl
theorem byteOf_wrap (x : BitVec 64) (i : Nat) : IntKind.u8.wrap (wv (x >>> (8 * i))) = ((byteOf x i).toNat : Int) := by
  unfold byteOf wv
  rw [IntKind.wrap_u8', UInt8.toNat_ofNat']; omega
theorem byte_ext {a b : UInt8} (h : ∀ j, j < 8 → a.toNat.testBit j = b.toNat.testBit j) : a = b := by
  apply UInt8.toNat_inj.1
  apply Nat.eq_of_testBit_eq
  intro j
  by_cases hj : j < 8
  · exact h j hj
  · rw [byte_high a j (by omega), byte_high b j (by omega)]
theorem bytesOf_getD (x : BitVec 64) (k i : Nat) (h : i < k) : (bytesOf x k).getD i 0 = byteOf x i := by
  simp [bytesOf, List.getD_eq_getElem?_getD, h]
theorem wordAt_bytesOf (x : BitVec 64) : wordAt (bytesOf x 8) 0 = x := by
  apply BitVec.eq_of_getLsbD_eq
  intro j hj
  rw [wordAt_bit _ _ j hj, bytesOf_getD _ _ _ (by omega), byteOf_bit]
  rw [show 8 * (0 + j / 8) + j % 8 = j by omega]
  simp; omega
theorem bytesOf_wordAt (l : List UInt8) (h : l.length = 8) : bytesOf (wordAt l 0) 8 = l := by
  apply List.ext_getElem?
  intro i
  by_cases hi : i < 8
  · rw [List.getElem?_eq_getElem (by simpa [bytesOf_length] using hi), List.getElem?_eq_getElem (by omega)]
    congr 1
    apply byte_ext
    intro j hj
    have e1 : (bytesOf (wordAt l 0) 8)[i]'(by simpa [bytesOf_length] using hi) = byteOf (wordAt l 0) i := by simp [bytesOf]
    rw [e1, byteOf_bit, wordAt_bit _ _ _ (by omega), show (8 * i + j) % 8 = j by omega, show 0 + (8 * i + j) / 8 = i by omega]
    simp [hj, List.getD_eq_getElem?_getD, h, hi]
  · rw [List.getElem?_eq_none (by simp [bytesOf_length]; omega), List.getElem?_eq_none (by omega)]

end Go.Proofs.YtkmelamfohfdkabDoor
