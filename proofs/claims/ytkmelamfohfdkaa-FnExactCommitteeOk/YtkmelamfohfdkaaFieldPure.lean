/-
  Numbers modulo 12107: plain mathematics.
-/
import Derived.ProofKit
namespace Go.Proofs.Ytkmelamfohfdkaa

/-- A number modulo the field's size. -/
def fp (x : Int) : Int := x % 12107
theorem fp_nonneg (x : Int) : 0 ≤ fp x := Int.emod_nonneg _ (by decide)
theorem fp_lt (x : Int) : fp x < 12107 := Int.emod_lt_of_pos _ (by decide)
theorem fp_fp (x : Int) : fp (fp x) = fp x := Int.emod_emod_of_dvd _ (Int.dvd_refl _)
theorem fp_small {x : Int} (h : 0 ≤ x) (h' : x < 12107) : fp x = x := Int.emod_eq_of_lt h h'

/-- The rest that Go makes, and what is put to it below 0. -/
theorem tmod_neg_fp {n : Int} (h : Int.tmod n 12107 < 0) : Int.tmod n 12107 + 12107 = fp n := by
  unfold fp
  rcases Int.lt_or_le n 0 with hn | hn
  · have e : Int.tmod n 12107 = -((-n) % 12107) := by
      have := Int.neg_tmod (a := -n) (b := 12107)
      rw [Int.neg_neg] at this
      rw [this, Int.tmod_eq_emod_of_nonneg (by omega)]
    rw [e] at h ⊢
    omega
  · rw [Int.tmod_eq_emod_of_nonneg hn] at h
    omega

theorem tmod_nonneg_fp {n : Int} (h : ¬ Int.tmod n 12107 < 0) : Int.tmod n 12107 = fp n := by
  unfold fp
  rcases Int.lt_or_le n 0 with hn | hn
  · have e : Int.tmod n 12107 = -((-n) % 12107) := by
      have := Int.neg_tmod (a := -n) (b := 12107)
      rw [Int.neg_neg] at this
      rw [this, Int.tmod_eq_emod_of_nonneg (by omega)]
    rw [e] at h ⊢
    omega
  · rw [Int.tmod_eq_emod_of_nonneg hn]

theorem tmod_bounds (n : Int) : -12107 ≤ Int.tmod n 12107 ∧ Int.tmod n 12107 < 12107 := by
  by_cases h : Int.tmod n 12107 < 0
  · have := tmod_neg_fp h; have := fp_nonneg n; omega
  · have := tmod_nonneg_fp h; have := fp_lt n; omega

theorem tmod_fp {n : Int} (h : 0 ≤ n) : Int.tmod n 12107 = fp n := Int.tmod_eq_emod_of_nonneg h

def fpAdd (a b : Int) : Int := fp (fp a + fp b)
def fpSub (a b : Int) : Int := fp (fp a - fp b)
def fpMul (a b : Int) : Int := fp (fp a * fp b)

theorem fpAdd_eq (a b : Int) : fpAdd a b = fp (a + b) := by unfold fpAdd fp; simp
theorem fpSub_eq (a b : Int) : fpSub a b = fp (a - b) := by unfold fpSub fp; simp
theorem fpMul_eq (a b : Int) : fpMul a b = fp (a * b) := by unfold fpMul fp; simp [← Int.mul_emod]

theorem fp_put (a : Int) : fp (a + 12107) = fp a := by unfold fp; simp

theorem fp_add_fp (a b : Int) : fp (fp a + fp b) = fp (a + b) := fpAdd_eq a b
theorem fp_add_left (a b : Int) : fp (fp a + b) = fp (a + b) := by unfold fp; simp
theorem fp_add_right (a b : Int) : fp (a + fp b) = fp (a + b) := by unfold fp; simp
theorem fp_mul_left (a b : Int) : fp (fp a * b) = fp (a * b) := by unfold fp; simp [Int.mul_emod]
theorem fp_mul_right (a b : Int) : fp (a * fp b) = fp (a * b) := by unfold fp; simp [Int.mul_emod]

theorem prod_nonneg {a b : Int} (a0 : 0 ≤ a) (b0 : 0 ≤ b) : 0 ≤ a * b := Int.mul_nonneg a0 b0
theorem prod_le {a b : Int} (a0 : 0 ≤ a) (a1 : a < 12107) (b0 : 0 ≤ b) (b1 : b < 12107) : a * b ≤ 146555236 := by
  have := Int.mul_le_mul (show a ≤ 12106 by omega) (show b ≤ 12106 by omega) b0 (by decide)
  omega

/-- A number as one that is not below 0. -/
def nat (a : Int) : Nat := (fp a).toNat
theorem nat_lt (a : Int) : nat a < 12107 := by have := fp_lt a; have := fp_nonneg a; unfold nat; omega
theorem nat_cast (a : Int) : ((nat a : Nat) : Int) = fp a := by have := fp_nonneg a; unfold nat; omega

theorem nat_small {n : Nat} (h : n < 12107) : nat (n : Int) = n := by unfold nat; rw [fp_small (by omega) (by omega)]; simp

/-- A power. -/
def fpPow (a n : Int) : Int := if n < 0 then 0 else ((nat a ^ n.toNat % 12107 : Nat) : Int)

theorem fpPow_neg (a : Int) {n : Int} (h : n < 0) : fpPow a n = 0 := if_pos h
theorem fpPow_nat (a : Int) (n : Nat) : fpPow a (n : Int) = ((nat a ^ n % 12107 : Nat) : Int) := by unfold fpPow; rw [if_neg (by omega)]; simp
theorem fpPow_bounds (a n : Int) : 0 ≤ fpPow a n ∧ fpPow a n < 12107 := by
  unfold fpPow
  split
  · omega
  · have := Nat.mod_lt (nat a ^ n.toNat) (show 12107 > 0 by decide); omega

theorem mod_mul_mod (a b : Nat) : a % 12107 * b % 12107 = a * b % 12107 := by rw [Nat.mul_mod (a % 12107), Nat.mod_mod, ← Nat.mul_mod]
theorem mul_mod_mod (a b : Nat) : a * (b % 12107) % 12107 = a * b % 12107 := by rw [Nat.mul_comm, mod_mul_mod, Nat.mul_comm]
theorem pow_mod_mod (a n : Nat) : (a % 12107) ^ n % 12107 = a ^ n % 12107 := (Nat.pow_mod a n 12107).symm

/-- A round of the power's loop with an odd number. -/
theorem pow_odd (x b n : Nat) (h : n % 2 = 1) : (x * b % 12107) * (b * b % 12107) ^ (n / 2) % 12107 = x * b ^ n % 12107 := by
  rw [mod_mul_mod, ← mul_mod_mod, pow_mod_mod, mul_mod_mod]
  have e : b ^ n = b * (b * b) ^ (n / 2) := by
    rw [← Nat.pow_two, ← Nat.pow_mul, ← Nat.pow_succ']
    congr 1; omega
  rw [e, Nat.mul_assoc]

/-- A round of it with an even one. -/
theorem pow_even (x b n : Nat) (h : n % 2 = 0) : x * (b * b % 12107) ^ (n / 2) % 12107 = x * b ^ n % 12107 := by
  rw [← mul_mod_mod, pow_mod_mod, mul_mod_mod]
  have e : b ^ n = (b * b) ^ (n / 2) := by
    rw [← Nat.pow_two, ← Nat.pow_mul]
    congr 1; omega
  rw [e]

/-- The root of a number: a power of it, where its square is the number. -/
def rootX (a : Int) : Int := fpPow a 3027
def rootB (a : Int) : Bool := decide (fpMul (rootX a) (rootX a) = fp a)
def rootV (a : Int) : Int := if rootB a = true then (if fpSub 0 (rootX a) < rootX a then fpSub 0 (rootX a) else rootX a) else 0

/-- Whether a number is one of the field. -/
def fpOk (a : Int) : Bool := decide (0 ≤ a ∧ a < 12107)

end Go.Proofs.Ytkmelamfohfdkaa
