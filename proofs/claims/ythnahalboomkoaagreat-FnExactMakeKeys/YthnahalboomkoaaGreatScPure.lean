/-
  Scalars, numbers modulo 1009: plain mathematics.
-/
import Derived.ProofKit

namespace Go.Proofs.YthnahalboomkoaaGreat

/-- A number modulo the size of the group. -/
def sca (x : Int) : Int := x % 1009
theorem sca_nonneg (x : Int) : 0 ≤ sca x := Int.emod_nonneg _ (by decide)
theorem sca_lt (x : Int) : sca x < 1009 := Int.emod_lt_of_pos _ (by decide)
theorem sca_sca (x : Int) : sca (sca x) = sca x := Int.emod_emod_of_dvd _ (Int.dvd_refl _)
theorem sca_small {x : Int} (h : 0 ≤ x) (h' : x < 1009) : sca x = x := Int.emod_eq_of_lt h h'

/-- The rest that Go makes, and what is put to it below 0. -/
theorem tmod_neg_sca {n : Int} (h : Int.tmod n 1009 < 0) : Int.tmod n 1009 + 1009 = sca n := by
  unfold sca
  rcases Int.lt_or_le n 0 with hn | hn
  · have e : Int.tmod n 1009 = -((-n) % 1009) := by
      have := Int.neg_tmod (a := -n) (b := 1009)
      rw [Int.neg_neg] at this
      rw [this, Int.tmod_eq_emod_of_nonneg (by omega)]
    rw [e] at h ⊢
    omega
  · rw [Int.tmod_eq_emod_of_nonneg hn] at h
    omega

theorem tmod_nonneg_sca {n : Int} (h : ¬ Int.tmod n 1009 < 0) : Int.tmod n 1009 = sca n := by
  unfold sca
  rcases Int.lt_or_le n 0 with hn | hn
  · have e : Int.tmod n 1009 = -((-n) % 1009) := by
      have := Int.neg_tmod (a := -n) (b := 1009)
      rw [Int.neg_neg] at this
      rw [this, Int.tmod_eq_emod_of_nonneg (by omega)]
    rw [e] at h ⊢
    omega
  · rw [Int.tmod_eq_emod_of_nonneg hn]

theorem tmod_bounds_sca (n : Int) : -1009 ≤ Int.tmod n 1009 ∧ Int.tmod n 1009 < 1009 := by
  by_cases h : Int.tmod n 1009 < 0
  · have := tmod_neg_sca h; have := sca_nonneg n; omega
  · have := tmod_nonneg_sca h; have := sca_lt n; omega

def scAdd (a b : Int) : Int := sca (sca a + sca b)
def scMul (a b : Int) : Int := sca (sca a * sca b)
def scNeg (a : Int) : Int := sca (-sca a)

theorem scAdd_eq (a b : Int) : scAdd a b = sca (a + b) := by unfold scAdd sca; simp
theorem scMul_eq (a b : Int) : scMul a b = sca (a * b) := by unfold scMul sca; simp [← Int.mul_emod]
theorem sca_neg_sca (a : Int) : sca (-sca a) = sca (-a) := by unfold sca; omega
theorem scNeg_eq (a : Int) : scNeg a = sca (-a) := sca_neg_sca a

theorem sca_add_sca (a b : Int) : sca (sca a + sca b) = sca (a + b) := scAdd_eq a b
theorem sca_add_left (a b : Int) : sca (sca a + b) = sca (a + b) := by unfold sca; simp
theorem sca_add_right (a b : Int) : sca (a + sca b) = sca (a + b) := by unfold sca; simp
theorem sca_mul_left (a b : Int) : sca (sca a * b) = sca (a * b) := by unfold sca; simp [Int.mul_emod]
theorem sca_mul_right (a b : Int) : sca (a * sca b) = sca (a * b) := by unfold sca; simp [Int.mul_emod]

theorem sca_prod (a b : Int) : 0 ≤ sca a * sca b ∧ sca a * sca b ≤ 1016064 := by
  have a0 := sca_nonneg a
  have a1 := sca_lt a
  have b0 := sca_nonneg b
  have b1 := sca_lt b
  have h := Int.mul_le_mul (show sca a ≤ 1008 by omega) (show sca b ≤ 1008 by omega) b0 (by decide)
  have h0 := Int.mul_nonneg a0 b0
  omega

/-- A scalar as one that is not below 0. -/
def scn (a : Int) : Nat := (sca a).toNat
theorem scn_lt (a : Int) : scn a < 1009 := by have := sca_lt a; have := sca_nonneg a; unfold scn; omega
theorem scn_cast (a : Int) : ((scn a : Nat) : Int) = sca a := by have := sca_nonneg a; unfold scn; omega
theorem scn_small {n : Nat} (h : n < 1009) : scn (n : Int) = n := by unfold scn; rw [sca_small (by omega) (by omega)]; simp

theorem scMul_nat (a b : Int) : scMul a b = ((scn a * scn b % 1009 : Nat) : Int) := by
  unfold scMul
  rw [← scn_cast a, ← scn_cast b]
  unfold sca
  omega

theorem scm_left (a b : Nat) : a % 1009 * b % 1009 = a * b % 1009 := by rw [Nat.mul_mod (a % 1009), Nat.mod_mod, ← Nat.mul_mod]
theorem scm_right (a b : Nat) : a * (b % 1009) % 1009 = a * b % 1009 := by rw [Nat.mul_comm, scm_left, Nat.mul_comm]
theorem scm_pow (a n : Nat) : (a % 1009) ^ n % 1009 = a ^ n % 1009 := (Nat.pow_mod a n 1009).symm

/-- A round of the power's loop with an odd number. -/
theorem sca_odd (x b n : Nat) (h : n % 2 = 1) : (x * b % 1009) * (b * b % 1009) ^ (n / 2) % 1009 = x * b ^ n % 1009 := by
  rw [scm_left, ← scm_right, scm_pow, scm_right]
  have e : b ^ n = b * (b * b) ^ (n / 2) := by
    rw [← Nat.pow_two, ← Nat.pow_mul, ← Nat.pow_succ']
    congr 1; omega
  rw [e, Nat.mul_assoc]

/-- A round of it with an even one. -/
theorem sca_even (x b n : Nat) (h : n % 2 = 0) : x * (b * b % 1009) ^ (n / 2) % 1009 = x * b ^ n % 1009 := by
  rw [← scm_right, scm_pow, scm_right]
  have e : b ^ n = (b * b) ^ (n / 2) := by
    rw [← Nat.pow_two, ← Nat.pow_mul]
    congr 1; omega
  rw [e]

/-- The exponent of what makes 1, by name. -/
def eS : Nat := 1007
def scInv (a : Int) : Int := ((scn a ^ eS % 1009 : Nat) : Int)

/-- What stands at a place of two lists, all together: of the first n. -/
def dotN (f g : Nat → Int) : Nat → Int
  | 0 => 0
  | n + 1 => scAdd (dotN f g n) (scMul (f n) (g n))

def ssq (r : Nat) : Nat := Nat.mod (Nat.mul r r) 1009
def ssm (a r : Nat) : Nat := Nat.mod (Nat.mul (Nat.mod (Nat.mul r r) 1009) a) 1009
/-- A number to 1007. -/
def sinv (a : Nat) : Nat := ssm a (ssm a (ssm a (ssm a (ssq (ssm a (ssm a (ssm a (ssm a a))))))))

theorem ssq_pow {a r k : Nat} (h : r = a ^ k % 1009) : ssq r = a ^ (2 * k) % 1009 := by
  show r * r % 1009 = _
  rw [h, scm_left, scm_right, ← Nat.pow_add]
  congr 2; omega

theorem ssm_pow {a r k : Nat} (h : r = a ^ k % 1009) : ssm a r = a ^ (2 * k + 1) % 1009 := by
  show r * r % 1009 * a % 1009 = _
  rw [show r * r % 1009 = a ^ (2 * k) % 1009 from ssq_pow h, scm_left, ← Nat.pow_succ]

theorem sinv_pow {a : Nat} (h : a < 1009) : sinv a = a ^ eS % 1009 := by
  have h0 : a = a ^ 1 % 1009 := by rw [Nat.pow_one, Nat.mod_eq_of_lt h]
  have h1 := ssm_pow (ssm_pow (ssm_pow (ssm_pow h0)))
  have h2 := ssm_pow (ssm_pow (ssm_pow (ssm_pow (ssq_pow h1))))
  generalize he : 2 * (2 * (2 * (2 * (2 * (2 * (2 * (2 * (2 * 1 + 1) + 1) + 1) + 1)) + 1) + 1) + 1) + 1 = k at h2
  have hk : k = eS := by rw [← he]; rfl
  rw [← hk]; exact h2

def sgood (a : Nat) : Bool := Nat.beq (Nat.mod (Nat.mul a (sinv a)) 1009) 1 || Nat.beq (Nat.mod a 1009) 0
def sgoods : Nat → Nat → Bool
  | 0, lo => sgood lo
  | k + 1, lo => sgoods k lo && sgoods k (Nat.add lo (Nat.pow 2 k))

theorem sgoods_all : ∀ (k lo : Nat), sgoods k lo = true → ∀ a, lo ≤ a → a < lo + 2 ^ k → sgood a = true
  | 0, lo, h, a, h0, h1 => by
    have : a = lo := by simp at h1; omega
    rw [this]; exact h
  | k + 1, lo, h, a, h0, h1 => by
    simp only [sgoods, Bool.and_eq_true] at h
    by_cases hc : a < lo + 2 ^ k
    · exact sgoods_all k lo h.1 a h0 hc
    · refine sgoods_all k (lo + 2 ^ k) h.2 a (by omega) ?_
      rw [Nat.pow_succ] at h1; omega

set_option maxRecDepth 100000 in
theorem sgoods_here : sgoods 10 0 = true := by decide +kernel

/-- What is not 0 and its inverse make 1. -/
theorem sca_inv_nat {a : Nat} (h0 : 0 < a) (h : a < 1009) : a * (a ^ eS % 1009) % 1009 = 1 := by
  have g := sgoods_all 10 0 sgoods_here a (Nat.zero_le _) (by omega)
  unfold sgood at g
  simp only [Bool.or_eq_true, Nat.beq_eq] at g
  rw [← sinv_pow h]
  rcases g with g | g
  · exact g
  · have g' : a % 1009 = 0 := g
    omega

theorem scMul_inv {a : Int} (h0 : 0 < a) (h : a < 1009) : scMul a (scInv a) = 1 := by
  have e : scn a = a.toNat := by unfold scn; rw [sca_small (by omega) h]
  have hl : scn a ^ eS % 1009 < 1009 := Nat.mod_lt _ (by decide)
  rw [scMul_nat]
  unfold scInv
  rw [scn_small hl, sca_inv_nat (by omega) (by omega)]
  rfl

end Go.Proofs.YthnahalboomkoaaGreat
