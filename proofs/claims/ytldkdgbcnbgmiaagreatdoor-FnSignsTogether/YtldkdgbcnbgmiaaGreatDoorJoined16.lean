/-
  Texts of one's own, joined.
-/
import Derived.Test.YtldkdgbcnbgmiaaGreatDoorJoined15
import Derived.ProofKit

/-
  Points as the program and the specification tell of them: right ones, sums, so often.
-/
namespace Go.Proofs.YtldkdgbcnbgmiaaGreatDoor

/-- Whether a point is right. -/
def pOkB (P : Pt) : Bool := if P.2.2 = true then (P.1 == 0 && P.2.1 == 0) else (fpOk P.1 && fpOk P.2.1 && fpMul P.2.1 P.2.1 == rhs P.1)

theorem pokB {P : Pt} : pOkB P = true ↔ POk P := by
  obtain ⟨x, y, z⟩ := P
  unfold pOkB POk pZ
  cases z
  · simp [fpOk, wc_rhs, and_assoc]
  · simp

/-- The sum of two points, whatever they are. -/
def pSum (P Q : Pt) : Pt := if pOkB P && pOkB Q then pAdd P Q else pZ
theorem psum_ok (P Q : Pt) : POk (pSum P Q) := by
  unfold pSum
  split
  · rename_i h
    rw [Bool.and_eq_true] at h
    exact padd_ok (pokB.1 h.1) (pokB.1 h.2)
  · exact pz_ok
theorem psum_eq {P Q : Pt} (hP : POk P) (hQ : POk Q) : pSum P Q = pAdd P Q := by
  unfold pSum
  rw [pokB.2 hP, pokB.2 hQ]
  rfl

/-- A point so often, whatever it is. -/
def pTimes (k : Int) (P : Pt) : Pt :=
  if pOkB P = true then (if Int.tmod k 12108 < 0 then pMul (pNeg P) (Int.tmod k 12108).natAbs else pMul P (Int.tmod k 12108).natAbs) else pZ
theorem ptimes_ok (k : Int) (P : Pt) : POk (pTimes k P) := by
  unfold pTimes
  split
  · rename_i h
    split
    · exact pmul_ok (pneg_ok (pokB.1 h)) _
    · exact pmul_ok (pokB.1 h) _
  · exact pz_ok
theorem ptimes_nat {P : Pt} (h : POk P) (n : Nat) : pTimes (n : Int) P = pMul P (n % 12108) := by
  unfold pTimes
  rw [if_pos (pokB.2 h), Int.tmod_eq_emod_of_nonneg (by omega), if_neg (by omega)]
  congr 1
theorem ptimes_small {P : Pt} (h : POk P) {n : Nat} (hn : n < 12108) : pTimes (n : Int) P = pMul P n := by
  rw [ptimes_nat h, Nat.mod_eq_of_lt hn]

/-- Whether a point is in the group. -/
def inGB (P : Pt) : Bool := pOkB P && (pTimes 1009 P).2.2
theorem ing_iff {P : Pt} : inGB P = true ↔ POk P ∧ pMul P 1009 = pZ := by
  unfold inGB
  rw [Bool.and_eq_true, pokB]
  constructor
  · rintro ⟨h1, h2⟩
    refine ⟨h1, ?_⟩
    have e := ptimes_small h1 (n := 1009) (by decide)
    have h3 : (pMul P 1009).2.2 = true := by rw [← e]; exact h2
    rcases pmul_ok h1 1009 with h4 | ⟨h4, _⟩
    · exact h4
    · rw [h4] at h3; cases h3
  · rintro ⟨h1, h2⟩
    have e := ptimes_small h1 (n := 1009) (by decide)
    exact ⟨h1, by show (pTimes ((1009 : Nat) : Int) P).2.2 = true; rw [e, h2]; rfl⟩

/-- All put together, in order. -/
def pSumList (l : List Pt) : Pt := l.foldl pSum pZ

/-- A round of the doubling. -/
theorem dbl_odd {R B : Pt} (hR : POk R) (hB : POk B) {n : Nat} (h : n % 2 = 1) : pAdd (pAdd R B) (pMul (pAdd B B) (n / 2)) = pAdd R (pMul B n) := by
  have e : pAdd B B = pMul B 2 := by rw [pmul_add hB 1 1, pmul_one]
  rw [e, pmul_mul hB, padd_assoc hR hB (pmul_ok hB _)]
  congr 1
  have : pMul B n = pMul B (1 + 2 * (n / 2)) := by rw [show 1 + 2 * (n / 2) = n by omega]
  rw [this, pmul_add hB, pmul_one]
theorem dbl_even {R B : Pt} (hB : POk B) {n : Nat} (h : n % 2 = 0) : pAdd R (pMul (pAdd B B) (n / 2)) = pAdd R (pMul B n) := by
  have e : pAdd B B = pMul B 2 := by rw [pmul_add hB 1 1, pmul_one]
  rw [e, pmul_mul hB, show 2 * (n / 2) = n by omega]

/-- A point in bytes. -/
def ptBytes (P : Pt) : List UInt8 :=
  if pOkB P = true then (if P.2.2 = true then [0, 0, 0] else [UInt8.ofNat ((P.1.toNat + 1) / 256), UInt8.ofNat ((P.1.toNat + 1) % 256), UInt8.ofNat (P.2.1.toNat % 2)]) else []
def ptText (P : Pt) : ByteArray := ⟨(ptBytes P).toArray⟩

/-- The Y of three bytes' root: turned where it is not as the last byte tells. -/
def rdY (x : Int) (c : UInt8) : Int := if rootV (rhs x) % 2 = (c.toNat : Int) then rootV (rhs x) else fpSub 0 (rootV (rhs x))
/-- The point whose text three bytes are, and whether there is one. -/
def rd3 (a b c : UInt8) : Pt × Bool :=
  if a = 0 ∧ b = 0 ∧ c = 0 then (pZ, true)
  else if fpOk ((a.toNat : Int) * 256 + b.toNat - 1) = true ∧ c.toNat ≤ 1 then
    (if rootB (rhs ((a.toNat : Int) * 256 + b.toNat - 1)) = true then
      (if ptText ((a.toNat : Int) * 256 + b.toNat - 1, rdY ((a.toNat : Int) * 256 + b.toNat - 1) c, false) = ⟨#[a, b, c]⟩ then (((a.toNat : Int) * 256 + b.toNat - 1, rdY ((a.toNat : Int) * 256 + b.toNat - 1) c, false), true) else ((0, 0, false), false))
    else ((0, 0, false), false))
  else ((0, 0, false), false)
def rdPt (t : ByteArray) : Pt × Bool :=
  match t.data.toList with
  | [a, b, c] => rd3 a b c
  | _ => ((0, 0, false), false)

theorem rdPt_size {t : ByteArray} (h : t.size ≠ 3) : rdPt t = ((0, 0, false), false) := by
  unfold rdPt
  split
  · rename_i a b c e
    refine absurd ?_ h
    show t.data.size = 3
    rw [← Array.length_toList, e]; rfl
  · rfl
theorem bytes3 {t : ByteArray} (h : t.size = 3) : ∃ a b c, t = ⟨#[a, b, c]⟩ := by
  obtain ⟨d⟩ := t
  obtain ⟨l⟩ := d
  have h' : l.length = 3 := h
  match l, h' with
  | [a, b, c], _ => exact ⟨a, b, c, rfl⟩

/-- What is read is a right point, and the text is its. -/
theorem rdPt_text {t : ByteArray} (h : (rdPt t).2 = true) : ptText (rdPt t).1 = t := by
  by_cases hs : t.size = 3
  · obtain ⟨a, b, c, rfl⟩ := bytes3 hs
    show ptText (rd3 a b c).1 = _
    have h' : (rd3 a b c).2 = true := h
    unfold rd3 at h' ⊢
    split at h'
    · rename_i h0
      obtain ⟨rfl, rfl, rfl⟩ := h0
      rfl
    · rename_i h0
      rw [if_neg h0]
      split at h'
      · rename_i h1
        rw [if_pos h1]
        split at h'
        · rename_i h2
          rw [if_pos h2]
          split at h'
          · rename_i h3
            rw [if_pos h3]; exact h3
          · cases h'
        · cases h'
      · cases h'
  · rw [rdPt_size hs] at h; cases h

theorem u8_toNat {n : Nat} (h : n < 256) : (UInt8.ofNat n).toNat = n := by simp; omega

/-- A right point comes back from its text. -/
theorem rdPt_back {P : Pt} (h : POk P) : rdPt (ptText P) = (P, true) := by
  have hb := pokB.2 h
  rcases h with rfl | ⟨h1, h2, h3, h4⟩
  · rfl
  · obtain ⟨x, y, z⟩ := P
    simp only at h1 h2 h3 h4
    subst h1
    obtain ⟨X, rfl⟩ : ∃ X : Nat, x = X := ⟨x.toNat, by omega⟩
    have hX : X < 12107 := by omega
    have ha : ((UInt8.ofNat ((X + 1) / 256)).toNat : Int) * 256 + (UInt8.ofNat ((X + 1) % 256)).toNat - 1 = (X : Int) := by
      rw [u8_toNat (by omega), u8_toNat (by omega)]; omega
    have hc : (UInt8.ofNat (y.toNat % 2)).toNat = y.toNat % 2 := u8_toNat (by omega)
    have et : ptText ((X : Int), y, false) = ⟨#[UInt8.ofNat ((X + 1) / 256), UInt8.ofNat ((X + 1) % 256), UInt8.ofNat (y.toNat % 2)]⟩ := by
      unfold ptText ptBytes
      rw [hb]
      rfl
    have hy : rdY (X : Int) (UInt8.ofNat (y.toNat % 2)) = y ∧ rootB (rhs (X : Int)) = true := by
      have hr := rhs_in (X : Int)
      have hq := wc_rhs.1 h4
      by_cases hv0 : y = 0
      · subst hv0
        have hz : rhs (X : Int) = 0 := by rw [← hq]; rfl
        unfold rdY
        rw [hz]
        exact ⟨by decide +kernel, by decide +kernel⟩
      · obtain ⟨k, rfl⟩ : ∃ k : Nat, y = k := ⟨y.toNat, by omega⟩
        have hs := root_square (n := k) (by omega) (by omega)
        rw [hq] at hs
        refine ⟨?_, hs.1⟩
        have ht := root_right' hr.1 hr.2 hs.1
        have hv := rootV_in (n := rhs (X : Int))
        unfold rdY
        rw [hc]
        rcases roots_two h3 hv (hq.trans ht.symm) with e | e
        · rw [← e, if_pos (by simp)]
        · have hne : rootV (rhs (X : Int)) ≠ 0 := fun e0 => by
            rw [e0] at e
            have : fpSub 0 0 = 0 := by decide
            omega
          have e' : (k : Int) = 12107 - rootV (rhs (X : Int)) := by
            rw [e]
            rw [fpSub_eq]
            unfold fp
            omega
          rw [if_neg (by rw [Int.toNat_natCast]; omega), ← e]
    rw [et]
    show rd3 _ _ _ = _
    unfold rd3
    rw [ha, hy.1, et]
    have hok : fpOk (X : Int) = true := decide_eq_true ⟨by omega, by omega⟩
    have hn0 : ¬ (UInt8.ofNat ((X + 1) / 256) = 0 ∧ UInt8.ofNat ((X + 1) % 256) = 0 ∧ UInt8.ofNat (y.toNat % 2) = 0) := by
      rintro ⟨e1, e2, _⟩
      have f1 := congrArg UInt8.toNat e1
      have f2 := congrArg UInt8.toNat e2
      rw [u8_toNat (by omega)] at f1
      rw [u8_toNat (by omega)] at f2
      have g1 : (X + 1) / 256 = 0 := f1
      have g2 : (X + 1) % 256 = 0 := f2
      omega
    rw [if_neg hn0, if_pos ⟨hok, by rw [hc]; omega⟩, if_pos hy.2, if_pos rfl]

end Go.Proofs.YtldkdgbcnbgmiaaGreatDoor

/-
  Scalars, numbers modulo 1009: plain mathematics.
-/
namespace Go.Proofs.YtldkdgbcnbgmiaaGreatDoor

/-- A number modulo the size of the group. -/
def sca (x : Int) : Int := x % 1009
theorem sca_nonneg (x : Int) : 0 ≤ sca x := Int.emod_nonneg _ (by decide)
theorem sca_lt (x : Int) : sca x < 1009 := Int.emod_lt_of_pos _ (by decide)
theorem sca_sca (x : Int) : sca (sca x) = sca x := Int.emod_emod_of_dvd _ (Int.dvd_refl _)
theorem sca_small {x : Int} (h : 0 ≤ x) (h' : x < 1009) : sca x = x := Int.emod_eq_of_lt h h'

/-- The rest that Go makes, and what is put to it below 0. -/
theorem tmod_neg_sca {n : Int} (h : Int.tmod n 1009 < 0) : Int.tmod n 1009 + 1009 = sca n := by
  unfold sca
  rcases Int.lt_or_le n 0 with hn | hn
  · have e : Int.tmod n 1009 = -((-n) % 1009) := by
      have := Int.neg_tmod (a := -n) (b := 1009)
      rw [Int.neg_neg] at this
      rw [this, Int.tmod_eq_emod_of_nonneg (by omega)]
    rw [e] at h ⊢
    omega
  · rw [Int.tmod_eq_emod_of_nonneg hn] at h
    omega

theorem tmod_nonneg_sca {n : Int} (h : ¬ Int.tmod n 1009 < 0) : Int.tmod n 1009 = sca n := by
  unfold sca
  rcases Int.lt_or_le n 0 with hn | hn
  · have e : Int.tmod n 1009 = -((-n) % 1009) := by
      have := Int.neg_tmod (a := -n) (b := 1009)
      rw [Int.neg_neg] at this
      rw [this, Int.tmod_eq_emod_of_nonneg (by omega)]
    rw [e] at h ⊢
    omega
  · rw [Int.tmod_eq_emod_of_nonneg hn]

theorem tmod_bounds_sca (n : Int) : -1009 ≤ Int.tmod n 1009 ∧ Int.tmod n 1009 < 1009 := by
  by_cases h : Int.tmod n 1009 < 0
  · have := tmod_neg_sca h; have := sca_nonneg n; omega
  · have := tmod_nonneg_sca h; have := sca_lt n; omega

def scAdd (a b : Int) : Int := sca (sca a + sca b)
def scMul (a b : Int) : Int := sca (sca a * sca b)
def scNeg (a : Int) : Int := sca (-sca a)

theorem scAdd_eq (a b : Int) : scAdd a b = sca (a + b) := by unfold scAdd sca; simp
theorem scMul_eq (a b : Int) : scMul a b = sca (a * b) := by unfold scMul sca; simp [← Int.mul_emod]
theorem sca_neg_sca (a : Int) : sca (-sca a) = sca (-a) := by unfold sca; omega
theorem scNeg_eq (a : Int) : scNeg a = sca (-a) := sca_neg_sca a

theorem sca_add_sca (a b : Int) : sca (sca a + sca b) = sca (a + b) := scAdd_eq a b
theorem sca_add_left (a b : Int) : sca (sca a + b) = sca (a + b) := by unfold sca; simp
theorem sca_add_right (a b : Int) : sca (a + sca b) = sca (a + b) := by unfold sca; simp
theorem sca_mul_left (a b : Int) : sca (sca a * b) = sca (a * b) := by unfold sca; simp [Int.mul_emod]
theorem sca_mul_right (a b : Int) : sca (a * sca b) = sca (a * b) := by unfold sca; simp [Int.mul_emod]

theorem sca_prod (a b : Int) : 0 ≤ sca a * sca b ∧ sca a * sca b ≤ 1016064 := by
  have a0 := sca_nonneg a
  have a1 := sca_lt a
  have b0 := sca_nonneg b
  have b1 := sca_lt b
  have h := Int.mul_le_mul (show sca a ≤ 1008 by omega) (show sca b ≤ 1008 by omega) b0 (by decide)
  have h0 := Int.mul_nonneg a0 b0
  omega

/-- A scalar as one that is not below 0. -/
def scn (a : Int) : Nat := (sca a).toNat
theorem scn_lt (a : Int) : scn a < 1009 := by have := sca_lt a; have := sca_nonneg a; unfold scn; omega
theorem scn_cast (a : Int) : ((scn a : Nat) : Int) = sca a := by have := sca_nonneg a; unfold scn; omega
theorem scn_small {n : Nat} (h : n < 1009) : scn (n : Int) = n := by unfold scn; rw [sca_small (by omega) (by omega)]; simp

theorem scMul_nat (a b : Int) : scMul a b = ((scn a * scn b % 1009 : Nat) : Int) := by
  unfold scMul
  rw [← scn_cast a, ← scn_cast b]
  unfold sca
  omega

theorem scm_left (a b : Nat) : a % 1009 * b % 1009 = a * b % 1009 := by rw [Nat.mul_mod (a % 1009), Nat.mod_mod, ← Nat.mul_mod]
theorem scm_right (a b : Nat) : a * (b % 1009) % 1009 = a * b % 1009 := by rw [Nat.mul_comm, scm_left, Nat.mul_comm]
theorem scm_pow (a n : Nat) : (a % 1009) ^ n % 1009 = a ^ n % 1009 := (Nat.pow_mod a n 1009).symm

/-- A round of the power's loop with an odd number. -/
theorem sca_odd (x b n : Nat) (h : n % 2 = 1) : (x * b % 1009) * (b * b % 1009) ^ (n / 2) % 1009 = x * b ^ n % 1009 := by
  rw [scm_left, ← scm_right, scm_pow, scm_right]
  have e : b ^ n = b * (b * b) ^ (n / 2) := by
    rw [← Nat.pow_two, ← Nat.pow_mul, ← Nat.pow_succ']
    congr 1; omega
  rw [e, Nat.mul_assoc]

/-- A round of it with an even one. -/
theorem sca_even (x b n : Nat) (h : n % 2 = 0) : x * (b * b % 1009) ^ (n / 2) % 1009 = x * b ^ n % 1009 := by
  rw [← scm_right, scm_pow, scm_right]
  have e : b ^ n = (b * b) ^ (n / 2) := by
    rw [← Nat.pow_two, ← Nat.pow_mul]
    congr 1; omega
  rw [e]

/-- The exponent of what makes 1, by name. -/
def eS : Nat := 1007
def scInv (a : Int) : Int := ((scn a ^ eS % 1009 : Nat) : Int)

/-- What stands at a place of two lists, all together: of the first n. -/
def dotN (f g : Nat → Int) : Nat → Int
  | 0 => 0
  | n + 1 => scAdd (dotN f g n) (scMul (f n) (g n))

def ssq (r : Nat) : Nat := Nat.mod (Nat.mul r r) 1009
def ssm (a r : Nat) : Nat := Nat.mod (Nat.mul (Nat.mod (Nat.mul r r) 1009) a) 1009
/-- A number to 1007. -/
def sinv (a : Nat) : Nat := ssm a (ssm a (ssm a (ssm a (ssq (ssm a (ssm a (ssm a (ssm a a))))))))

theorem ssq_pow {a r k : Nat} (h : r = a ^ k % 1009) : ssq r = a ^ (2 * k) % 1009 := by
  show r * r % 1009 = _
  rw [h, scm_left, scm_right, ← Nat.pow_add]
  congr 2; omega

theorem ssm_pow {a r k : Nat} (h : r = a ^ k % 1009) : ssm a r = a ^ (2 * k + 1) % 1009 := by
  show r * r % 1009 * a % 1009 = _
  rw [show r * r % 1009 = a ^ (2 * k) % 1009 from ssq_pow h, scm_left, ← Nat.pow_succ]

theorem sinv_pow {a : Nat} (h : a < 1009) : sinv a = a ^ eS % 1009 := by
  have h0 : a = a ^ 1 % 1009 := by rw [Nat.pow_one, Nat.mod_eq_of_lt h]
  have h1 := ssm_pow (ssm_pow (ssm_pow (ssm_pow h0)))
  have h2 := ssm_pow (ssm_pow (ssm_pow (ssm_pow (ssq_pow h1))))
  generalize he : 2 * (2 * (2 * (2 * (2 * (2 * (2 * (2 * (2 * 1 + 1) + 1) + 1) + 1)) + 1) + 1) + 1) + 1 = k at h2
  have hk : k = eS := by rw [← he]; rfl
  rw [← hk]; exact h2

def sgood (a : Nat) : Bool := Nat.beq (Nat.mod (Nat.mul a (sinv a)) 1009) 1 || Nat.beq (Nat.mod a 1009) 0
def sgoods : Nat → Nat → Bool
  | 0, lo => sgood lo
  | k + 1, lo => sgoods k lo && sgoods k (Nat.add lo (Nat.pow 2 k))

theorem sgoods_all : ∀ (k lo : Nat), sgoods k lo = true → ∀ a, lo ≤ a → a < lo + 2 ^ k → sgood a = true
  | 0, lo, h, a, h0, h1 => by
    have : a = lo := by simp at h1; omega
    rw [this]; exact h
  | k + 1, lo, h, a, h0, h1 => by
    simp only [sgoods, Bool.and_eq_true] at h
    by_cases hc : a < lo + 2 ^ k
    · exact sgoods_all k lo h.1 a h0 hc
    · refine sgoods_all k (lo + 2 ^ k) h.2 a (by omega) ?_
      rw [Nat.pow_succ] at h1; omega

set_option maxRecDepth 100000 in
theorem sgoods_here : sgoods 10 0 = true := by decide +kernel

/-- What is not 0 and its inverse make 1. -/
theorem sca_inv_nat {a : Nat} (h0 : 0 < a) (h : a < 1009) : a * (a ^ eS % 1009) % 1009 = 1 := by
  have g := sgoods_all 10 0 sgoods_here a (Nat.zero_le _) (by omega)
  unfold sgood at g
  simp only [Bool.or_eq_true, Nat.beq_eq] at g
  rw [← sinv_pow h]
  rcases g with g | g
  · exact g
  · have g' : a % 1009 = 0 := g
    omega

theorem scMul_inv {a : Int} (h0 : 0 < a) (h : a < 1009) : scMul a (scInv a) = 1 := by
  have e : scn a = a.toNat := by unfold scn; rw [sca_small (by omega) h]
  have hl : scn a ^ eS % 1009 < 1009 := Nat.mod_lt _ (by decide)
  rw [scMul_nat]
  unfold scInv
  rw [scn_small hl, sca_inv_nat (by omega) (by omega)]
  rfl

theorem scInv_zero : scInv 0 = 0 := by
  unfold scInv
  rw [show scn 0 = 0 from rfl, Nat.zero_pow (by decide)]
  rfl

theorem scAdd_neg (b : Int) : scAdd b (scNeg b) = 0 := by
  rw [scAdd_eq, scNeg_eq, sca_add_right]
  unfold sca; omega

theorem sca_dist (a b c : Int) : scMul a (scAdd b c) = scAdd (scMul a b) (scMul a c) := by
  rw [scMul_eq, scAdd_eq, scAdd_eq, scMul_eq, scMul_eq, sca_mul_right, sca_add_sca, Int.mul_add]

end Go.Proofs.YtldkdgbcnbgmiaaGreatDoor
