/-
  Texts of one's own, joined.
-/
import Derived.ProofKit

/-
  Numbers modulo 12107: plain mathematics.
-/
namespace Go.Proofs.YthnahalboomkoaaGreat

/-- A number modulo the field's size. -/
def fp (x : Int) : Int := x % 12107
theorem fp_nonneg (x : Int) : 0 ≤ fp x := Int.emod_nonneg _ (by decide)
theorem fp_lt (x : Int) : fp x < 12107 := Int.emod_lt_of_pos _ (by decide)
theorem fp_fp (x : Int) : fp (fp x) = fp x := Int.emod_emod_of_dvd _ (Int.dvd_refl _)
theorem fp_small {x : Int} (h : 0 ≤ x) (h' : x < 12107) : fp x = x := Int.emod_eq_of_lt h h'

/-- The rest that Go makes, and what is put to it below 0. -/
theorem tmod_neg_fp {n : Int} (h : Int.tmod n 12107 < 0) : Int.tmod n 12107 + 12107 = fp n := by
  unfold fp
  rcases Int.lt_or_le n 0 with hn | hn
  · have e : Int.tmod n 12107 = -((-n) % 12107) := by
      have := Int.neg_tmod (a := -n) (b := 12107)
      rw [Int.neg_neg] at this
      rw [this, Int.tmod_eq_emod_of_nonneg (by omega)]
    rw [e] at h ⊢
    omega
  · rw [Int.tmod_eq_emod_of_nonneg hn] at h
    omega

theorem tmod_nonneg_fp {n : Int} (h : ¬ Int.tmod n 12107 < 0) : Int.tmod n 12107 = fp n := by
  unfold fp
  rcases Int.lt_or_le n 0 with hn | hn
  · have e : Int.tmod n 12107 = -((-n) % 12107) := by
      have := Int.neg_tmod (a := -n) (b := 12107)
      rw [Int.neg_neg] at this
      rw [this, Int.tmod_eq_emod_of_nonneg (by omega)]
    rw [e] at h ⊢
    omega
  · rw [Int.tmod_eq_emod_of_nonneg hn]

theorem tmod_bounds (n : Int) : -12107 ≤ Int.tmod n 12107 ∧ Int.tmod n 12107 < 12107 := by
  by_cases h : Int.tmod n 12107 < 0
  · have := tmod_neg_fp h; have := fp_nonneg n; omega
  · have := tmod_nonneg_fp h; have := fp_lt n; omega

theorem tmod_fp {n : Int} (h : 0 ≤ n) : Int.tmod n 12107 = fp n := Int.tmod_eq_emod_of_nonneg h

def fpAdd (a b : Int) : Int := fp (fp a + fp b)
def fpSub (a b : Int) : Int := fp (fp a - fp b)
def fpMul (a b : Int) : Int := fp (fp a * fp b)

theorem fpAdd_eq (a b : Int) : fpAdd a b = fp (a + b) := by unfold fpAdd fp; simp
theorem fpSub_eq (a b : Int) : fpSub a b = fp (a - b) := by unfold fpSub fp; simp
theorem fpMul_eq (a b : Int) : fpMul a b = fp (a * b) := by unfold fpMul fp; simp [← Int.mul_emod]

theorem fp_put (a : Int) : fp (a + 12107) = fp a := by unfold fp; simp

theorem fp_add_fp (a b : Int) : fp (fp a + fp b) = fp (a + b) := fpAdd_eq a b
theorem fp_add_left (a b : Int) : fp (fp a + b) = fp (a + b) := by unfold fp; simp
theorem fp_add_right (a b : Int) : fp (a + fp b) = fp (a + b) := by unfold fp; simp
theorem fp_mul_left (a b : Int) : fp (fp a * b) = fp (a * b) := by unfold fp; simp [Int.mul_emod]
theorem fp_mul_right (a b : Int) : fp (a * fp b) = fp (a * b) := by unfold fp; simp [Int.mul_emod]

theorem prod_nonneg {a b : Int} (a0 : 0 ≤ a) (b0 : 0 ≤ b) : 0 ≤ a * b := Int.mul_nonneg a0 b0
theorem prod_le {a b : Int} (a0 : 0 ≤ a) (a1 : a < 12107) (b0 : 0 ≤ b) (b1 : b < 12107) : a * b ≤ 146555236 := by
  have := Int.mul_le_mul (show a ≤ 12106 by omega) (show b ≤ 12106 by omega) b0 (by decide)
  omega

/-- A number as one that is not below 0. -/
def nat (a : Int) : Nat := (fp a).toNat
theorem nat_lt (a : Int) : nat a < 12107 := by have := fp_lt a; have := fp_nonneg a; unfold nat; omega
theorem nat_cast (a : Int) : ((nat a : Nat) : Int) = fp a := by have := fp_nonneg a; unfold nat; omega

theorem nat_small {n : Nat} (h : n < 12107) : nat (n : Int) = n := by unfold nat; rw [fp_small (by omega) (by omega)]; simp

/-- A power. -/
def fpPow (a n : Int) : Int := if n < 0 then 0 else ((nat a ^ n.toNat % 12107 : Nat) : Int)

theorem fpPow_neg (a : Int) {n : Int} (h : n < 0) : fpPow a n = 0 := if_pos h
theorem fpPow_nat (a : Int) (n : Nat) : fpPow a (n : Int) = ((nat a ^ n % 12107 : Nat) : Int) := by unfold fpPow; rw [if_neg (by omega)]; simp
theorem fpPow_bounds (a n : Int) : 0 ≤ fpPow a n ∧ fpPow a n < 12107 := by
  unfold fpPow
  split
  · omega
  · have := Nat.mod_lt (nat a ^ n.toNat) (show 12107 > 0 by decide); omega

theorem mod_mul_mod (a b : Nat) : a % 12107 * b % 12107 = a * b % 12107 := by rw [Nat.mul_mod (a % 12107), Nat.mod_mod, ← Nat.mul_mod]
theorem mul_mod_mod (a b : Nat) : a * (b % 12107) % 12107 = a * b % 12107 := by rw [Nat.mul_comm, mod_mul_mod, Nat.mul_comm]
theorem pow_mod_mod (a n : Nat) : (a % 12107) ^ n % 12107 = a ^ n % 12107 := (Nat.pow_mod a n 12107).symm

/-- A round of the power's loop with an odd number. -/
theorem pow_odd (x b n : Nat) (h : n % 2 = 1) : (x * b % 12107) * (b * b % 12107) ^ (n / 2) % 12107 = x * b ^ n % 12107 := by
  rw [mod_mul_mod, ← mul_mod_mod, pow_mod_mod, mul_mod_mod]
  have e : b ^ n = b * (b * b) ^ (n / 2) := by
    rw [← Nat.pow_two, ← Nat.pow_mul, ← Nat.pow_succ']
    congr 1; omega
  rw [e, Nat.mul_assoc]

/-- A round of it with an even one. -/
theorem pow_even (x b n : Nat) (h : n % 2 = 0) : x * (b * b % 12107) ^ (n / 2) % 12107 = x * b ^ n % 12107 := by
  rw [← mul_mod_mod, pow_mod_mod, mul_mod_mod]
  have e : b ^ n = (b * b) ^ (n / 2) := by
    rw [← Nat.pow_two, ← Nat.pow_mul]
    congr 1; omega
  rw [e]

/-- The root of a number: a power of it, where its square is the number. -/
def rootX (a : Int) : Int := fpPow a 3027
def rootB (a : Int) : Bool := decide (fpMul (rootX a) (rootX a) = fp a)
def rootV (a : Int) : Int := if rootB a = true then (if fpSub 0 (rootX a) < rootX a then fpSub 0 (rootX a) else rootX a) else 0

/-- Whether a number is one of the field. -/
def fpOk (a : Int) : Bool := decide (0 ≤ a ∧ a < 12107)

end Go.Proofs.YthnahalboomkoaaGreat

/-
  Numbers modulo 12107 make a field: what is not 0 to 6053 is 1 or 12106.
-/
namespace Go.Proofs.YthnahalboomkoaaGreat

/-- The exponents, by name. -/
def eH : Nat := 6053
def eQ : Nat := 3027
def eI : Nat := 12105
def eF : Nat := 12106
theorem eHH : eH + eH = eF := rfl
theorem eQQ : eQ + eQ = eH + 1 := rfl
theorem eII : eI + 1 = eF := rfl
theorem e2H : 2 * eH = eF := rfl
theorem e2Q : 2 * eQ = eH + 1 := rfl
theorem eF2 : ∃ g, eF = 2 + g := ⟨12104, rfl⟩

def sq (r : Nat) : Nat := Nat.mod (Nat.mul r r) 12107
def sm (a r : Nat) : Nat := Nat.mod (Nat.mul (Nat.mod (Nat.mul r r) 12107) a) 12107
/-- A number to 6053. -/
def chi (a : Nat) : Nat := sm a (sq (sm a (sq (sq (sm a (sq (sm a (sm a (sm a (sm a (sq a)))))))))))

theorem sq_pow {a r k : Nat} (h : r = a ^ k % 12107) : sq r = a ^ (2 * k) % 12107 := by
  show r * r % 12107 = _
  rw [h, mod_mul_mod, mul_mod_mod, ← Nat.pow_add]
  congr 2; omega

theorem sm_pow {a r k : Nat} (h : r = a ^ k % 12107) : sm a r = a ^ (2 * k + 1) % 12107 := by
  show r * r % 12107 * a % 12107 = _
  rw [show r * r % 12107 = a ^ (2 * k) % 12107 from sq_pow h, mod_mul_mod, ← Nat.pow_succ]

theorem chi_pow {a : Nat} (h : a < 12107) : chi a = a ^ eH % 12107 := by
  have h0 : a = a ^ 1 % 12107 := by rw [Nat.pow_one, Nat.mod_eq_of_lt h]
  have h1 := sm_pow (sm_pow (sm_pow (sm_pow (sq_pow h0))))
  have h2 := sq_pow (sq_pow (sm_pow (sq_pow h1)))
  have h3 := sm_pow (sq_pow (sm_pow h2))
  generalize he : 2 * (2 * (2 * (2 * (2 * (2 * (2 * (2 * (2 * (2 * (2 * (2 * 1) + 1) + 1) + 1) + 1)) + 1))) + 1)) + 1 = k at h3
  have hk : k = eH := by rw [← he]; rfl
  rw [← hk]; exact h3

def good (a : Nat) : Bool := Nat.beq (chi a) 1 || Nat.beq (chi a) 12106 || Nat.beq (Nat.mod a 12107) 0
def goods : Nat → Nat → Bool
  | 0, lo => good lo
  | k + 1, lo => goods k lo && goods k (Nat.add lo (Nat.pow 2 k))

theorem goods_all : ∀ (k lo : Nat), goods k lo = true → ∀ a, lo ≤ a → a < lo + 2 ^ k → good a = true
  | 0, lo, h, a, h0, h1 => by
    have : a = lo := by simp at h1; omega
    rw [this]; exact h
  | k + 1, lo, h, a, h0, h1 => by
    simp only [goods, Bool.and_eq_true] at h
    by_cases hc : a < lo + 2 ^ k
    · exact goods_all k lo h.1 a h0 hc
    · refine goods_all k (lo + 2 ^ k) h.2 a (by omega) ?_
      rw [Nat.pow_succ] at h1; omega

set_option maxRecDepth 100000 in
theorem goods_here : goods 14 0 = true := by decide +kernel

theorem chi_two {a : Nat} (h0 : a % 12107 ≠ 0) (h : a < 12107) : a ^ eH % 12107 = 1 ∨ a ^ eH % 12107 = 12106 := by
  have g := goods_all 14 0 goods_here a (Nat.zero_le _) (by omega)
  have g' : chi a = 1 ∨ chi a = 12106 := by
    unfold good at g
    simp only [Bool.or_eq_true, Nat.beq_eq] at g
    rcases g with (g | g) | g
    · exact .inl g
    · exact .inr g
    · exact absurd g h0
  rw [chi_pow h] at g'
  exact g'

/-- What is not 0 to 12106 is 1. -/
theorem fermat {a : Nat} (h0 : 0 < a) (h : a < 12107) : a ^ eF % 12107 = 1 := by
  have e : a ^ eF = a ^ eH * a ^ eH := by rw [← Nat.pow_add, eHH]
  rw [e, Nat.mul_mod]
  rcases chi_two (by omega) h with h1 | h1 <;> rw [h1]

theorem fpMul_inv {a : Int} (h0 : 0 < a) (h : a < 12107) : fpMul a (fpPow a 12105) = 1 := by
  have e : nat a = a.toNat := by unfold nat; rw [fp_small (by omega) h]
  have := fpPow_nat a eI
  rw [e] at this
  rw [show (12105 : Int) = ((eI : Nat) : Int) from rfl, this, fpMul_eq]
  obtain ⟨n, rfl⟩ : ∃ n : Nat, a = n := ⟨a.toNat, by omega⟩
  rw [Int.toNat_natCast]
  have f := fermat (a := n) (by omega) (by omega)
  rw [← eII, Nat.pow_succ', ← mul_mod_mod] at f
  unfold fp
  omega

end Go.Proofs.YthnahalboomkoaaGreat
