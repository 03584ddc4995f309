/-
  Points as the program and the specification tell of them: right ones, sums, so often.
-/
import Derived.Test.YtkmelamfohfdkabLagPure
namespace Go.Proofs.Ytkmelamfohfdkab

/-- Whether a point is right. -/
def pOkB (P : Pt) : Bool := if P.2.2 = true then (P.1 == 0 && P.2.1 == 0) else (fpOk P.1 && fpOk P.2.1 && fpMul P.2.1 P.2.1 == rhs P.1)

theorem pokB {P : Pt} : pOkB P = true ↔ POk P := by
  obtain ⟨x, y, z⟩ := P
  unfold pOkB POk pZ
  cases z
  · simp [fpOk, wc_rhs, and_assoc]
  · simp

/-- The sum of two points, whatever they are. -/
def pSum (P Q : Pt) : Pt := if pOkB P && pOkB Q then pAdd P Q else pZ
theorem psum_ok (P Q : Pt) : POk (pSum P Q) := by
  unfold pSum
  split
  · rename_i h
    rw [Bool.and_eq_true] at h
    exact padd_ok (pokB.1 h.1) (pokB.1 h.2)
  · exact pz_ok
theorem psum_eq {P Q : Pt} (hP : POk P) (hQ : POk Q) : pSum P Q = pAdd P Q := by
  unfold pSum
  rw [pokB.2 hP, pokB.2 hQ]
  rfl

/-- A point so often, whatever it is. -/
def pTimes (k : Int) (P : Pt) : Pt :=
  if pOkB P = true then (if Int.tmod k 12108 < 0 then pMul (pNeg P) (Int.tmod k 12108).natAbs else pMul P (Int.tmod k 12108).natAbs) else pZ
theorem ptimes_ok (k : Int) (P : Pt) : POk (pTimes k P) := by
  unfold pTimes
  split
  · rename_i h
    split
    · exact pmul_ok (pneg_ok (pokB.1 h)) _
    · exact pmul_ok (pokB.1 h) _
  · exact pz_ok
theorem ptimes_nat {P : Pt} (h : POk P) (n : Nat) : pTimes (n : Int) P = pMul P (n % 12108) := by
  unfold pTimes
  rw [if_pos (pokB.2 h), Int.tmod_eq_emod_of_nonneg (by omega), if_neg (by omega)]
  congr 1
theorem ptimes_small {P : Pt} (h : POk P) {n : Nat} (hn : n < 12108) : pTimes (n : Int) P = pMul P n := by
  rw [ptimes_nat h, Nat.mod_eq_of_lt hn]

/-- Whether a point is in the group. -/
def inGB (P : Pt) : Bool := pOkB P && (pTimes 1009 P).2.2
theorem ing_iff {P : Pt} : inGB P = true ↔ POk P ∧ pMul P 1009 = pZ := by
  unfold inGB
  rw [Bool.and_eq_true, pokB]
  constructor
  · rintro ⟨h1, h2⟩
    refine ⟨h1, ?_⟩
    have e := ptimes_small h1 (n := 1009) (by decide)
    have h3 : (pMul P 1009).2.2 = true := by rw [← e]; exact h2
    rcases pmul_ok h1 1009 with h4 | ⟨h4, _⟩
    · exact h4
    · rw [h4] at h3; cases h3
  · rintro ⟨h1, h2⟩
    have e := ptimes_small h1 (n := 1009) (by decide)
    exact ⟨h1, by show (pTimes ((1009 : Nat) : Int) P).2.2 = true; rw [e, h2]; rfl⟩

/-- All put together, in order. -/
def pSumList (l : List Pt) : Pt := l.foldl pSum pZ

/-- A round of the doubling. -/
theorem dbl_odd {R B : Pt} (hR : POk R) (hB : POk B) {n : Nat} (h : n % 2 = 1) : pAdd (pAdd R B) (pMul (pAdd B B) (n / 2)) = pAdd R (pMul B n) := by
  have e : pAdd B B = pMul B 2 := by rw [pmul_add hB 1 1, pmul_one]
  rw [e, pmul_mul hB, padd_assoc hR hB (pmul_ok hB _)]
  congr 1
  have : pMul B n = pMul B (1 + 2 * (n / 2)) := by rw [show 1 + 2 * (n / 2) = n by omega]
  rw [this, pmul_add hB, pmul_one]
theorem dbl_even {R B : Pt} (hB : POk B) {n : Nat} (h : n % 2 = 0) : pAdd R (pMul (pAdd B B) (n / 2)) = pAdd R (pMul B n) := by
  have e : pAdd B B = pMul B 2 := by rw [pmul_add hB 1 1, pmul_one]
  rw [e, pmul_mul hB, show 2 * (n / 2) = n by omega]

/-- A point in bytes. -/
def ptBytes (P : Pt) : List UInt8 :=
  if pOkB P = true then (if P.2.2 = true then [0, 0, 0] else [UInt8.ofNat ((P.1.toNat + 1) / 256), UInt8.ofNat ((P.1.toNat + 1) % 256), UInt8.ofNat (P.2.1.toNat % 2)]) else []
def ptText (P : Pt) : ByteArray := ⟨(ptBytes P).toArray⟩

/-- The Y of three bytes' root: turned where it is not as the last byte tells. -/
def rdY (x : Int) (c : UInt8) : Int := if rootV (rhs x) % 2 = (c.toNat : Int) then rootV (rhs x) else fpSub 0 (rootV (rhs x))
/-- The point whose text three bytes are, and whether there is one. -/
def rd3 (a b c : UInt8) : Pt × Bool :=
  if a = 0 ∧ b = 0 ∧ c = 0 then (pZ, true)
  else if fpOk ((a.toNat : Int) * 256 + b.toNat - 1) = true ∧ c.toNat ≤ 1 then
    (if rootB (rhs ((a.toNat : Int) * 256 + b.toNat - 1)) = true then
      (if ptText ((a.toNat : Int) * 256 + b.toNat - 1, rdY ((a.toNat : Int) * 256 + b.toNat - 1) c, false) = ⟨#[a, b, c]⟩ then (((a.toNat : Int) * 256 + b.toNat - 1, rdY ((a.toNat : Int) * 256 + b.toNat - 1) c, false), true) else ((0, 0, false), false))
    else ((0, 0, false), false))
  else ((0, 0, false), false)
def rdPt (t : ByteArray) : Pt × Bool :=
  match t.data.toList with
  | [a, b, c] => rd3 a b c
  | _ => ((0, 0, false), false)

theorem rdPt_size {t : ByteArray} (h : t.size ≠ 3) : rdPt t = ((0, 0, false), false) := by
  unfold rdPt
  split
  · rename_i a b c e
    refine absurd ?_ h
    show t.data.size = 3
    rw [← Array.length_toList, e]; rfl
  · rfl
theorem bytes3 {t : ByteArray} (h : t.size = 3) : ∃ a b c, t = ⟨#[a, b, c]⟩ := by
  obtain ⟨d⟩ := t
  obtain ⟨l⟩ := d
  have h' : l.length = 3 := h
  match l, h' with
  | [a, b, c], _ => exact ⟨a, b, c, rfl⟩

/-- What is read is a right point, and the text is its. -/
theorem rdPt_text {t : ByteArray} (h : (rdPt t).2 = true) : ptText (rdPt t).1 = t := by
  by_cases hs : t.size = 3
  · obtain ⟨a, b, c, rfl⟩ := bytes3 hs
    show ptText (rd3 a b c).1 = _
    have h' : (rd3 a b c).2 = true := h
    unfold rd3 at h' ⊢
    split at h'
    · rename_i h0
      obtain ⟨rfl, rfl, rfl⟩ := h0
      rfl
    · rename_i h0
      rw [if_neg h0]
      split at h'
      · rename_i h1
        rw [if_pos h1]
        split at h'
        · rename_i h2
          rw [if_pos h2]
          split at h'
          · rename_i h3
            rw [if_pos h3]; exact h3
          · cases h'
        · cases h'
      · cases h'
  · rw [rdPt_size hs] at h; cases h

theorem u8_toNat {n : Nat} (h : n < 256) : (UInt8.ofNat n).toNat = n := by simp; omega

/-- A right point comes back from its text. -/
theorem rdPt_back {P : Pt} (h : POk P) : rdPt (ptText P) = (P, true) := by
  have hb := pokB.2 h
  rcases h with rfl | ⟨h1, h2, h3, h4⟩
  · rfl
  · obtain ⟨x, y, z⟩ := P
    simp only at h1 h2 h3 h4
    subst h1
    obtain ⟨X, rfl⟩ : ∃ X : Nat, x = X := ⟨x.toNat, by omega⟩
    have hX : X < 12107 := by omega
    have ha : ((UInt8.ofNat ((X + 1) / 256)).toNat : Int) * 256 + (UInt8.ofNat ((X + 1) % 256)).toNat - 1 = (X : Int) := by
      rw [u8_toNat (by omega), u8_toNat (by omega)]; omega
    have hc : (UInt8.ofNat (y.toNat % 2)).toNat = y.toNat % 2 := u8_toNat (by omega)
    have et : ptText ((X : Int), y, false) = ⟨#[UInt8.ofNat ((X + 1) / 256), UInt8.ofNat ((X + 1) % 256), UInt8.ofNat (y.toNat % 2)]⟩ := by
      unfold ptText ptBytes
      rw [hb]
      rfl
    have hy : rdY (X : Int) (UInt8.ofNat (y.toNat % 2)) = y ∧ rootB (rhs (X : Int)) = true := by
      have hr := rhs_in (X : Int)
      have hq := wc_rhs.1 h4
      by_cases hv0 : y = 0
      · subst hv0
        have hz : rhs (X : Int) = 0 := by rw [← hq]; rfl
        unfold rdY
        rw [hz]
        exact ⟨by decide +kernel, by decide +kernel⟩
      · obtain ⟨k, rfl⟩ : ∃ k : Nat, y = k := ⟨y.toNat, by omega⟩
        have hs := root_square (n := k) (by omega) (by omega)
        rw [hq] at hs
        refine ⟨?_, hs.1⟩
        have ht := root_right' hr.1 hr.2 hs.1
        have hv := rootV_in (n := rhs (X : Int))
        unfold rdY
        rw [hc]
        rcases roots_two h3 hv (hq.trans ht.symm) with e | e
        · rw [← e, if_pos (by simp)]
        · have hne : rootV (rhs (X : Int)) ≠ 0 := fun e0 => by
            rw [e0] at e
            have : fpSub 0 0 = 0 := by decide
            omega
          have e' : (k : Int) = 12107 - rootV (rhs (X : Int)) := by
            rw [e]
            rw [fpSub_eq]
            unfold fp
            omega
          rw [if_neg (by rw [Int.toNat_natCast]; omega), ← e]
    rw [et]
    show rd3 _ _ _ = _
    unfold rd3
    rw [ha, hy.1, et]
    have hok : fpOk (X : Int) = true := decide_eq_true ⟨by omega, by omega⟩
    have hn0 : ¬ (UInt8.ofNat ((X + 1) / 256) = 0 ∧ UInt8.ofNat ((X + 1) % 256) = 0 ∧ UInt8.ofNat (y.toNat % 2) = 0) := by
      rintro ⟨e1, e2, _⟩
      have f1 := congrArg UInt8.toNat e1
      have f2 := congrArg UInt8.toNat e2
      rw [u8_toNat (by omega)] at f1
      rw [u8_toNat (by omega)] at f2
      have g1 : (X + 1) / 256 = 0 := f1
      have g2 : (X + 1) % 256 = 0 := f2
      omega
    rw [if_neg hn0, if_pos ⟨hok, by rw [hc]; omega⟩, if_pos hy.2, if_pos rfl]

end Go.Proofs.Ytkmelamfohfdkab
