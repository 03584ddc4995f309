/-
  Numbers modulo 12107 make a field: what is not 0 to 6053 is 1 or 12106.
-/
import Derived.Test.YtkmelamfohfdkabFieldPure
namespace Go.Proofs.Ytkmelamfohfdkab

/-- The exponents, by name. -/
def eH : Nat := 6053
def eQ : Nat := 3027
def eI : Nat := 12105
def eF : Nat := 12106
theorem eHH : eH + eH = eF := rfl
theorem eQQ : eQ + eQ = eH + 1 := rfl
theorem eII : eI + 1 = eF := rfl
theorem e2H : 2 * eH = eF := rfl
theorem e2Q : 2 * eQ = eH + 1 := rfl
theorem eF2 : ∃ g, eF = 2 + g := ⟨12104, rfl⟩

def sq (r : Nat) : Nat := Nat.mod (Nat.mul r r) 12107
def sm (a r : Nat) : Nat := Nat.mod (Nat.mul (Nat.mod (Nat.mul r r) 12107) a) 12107
/-- A number to 6053. -/
def chi (a : Nat) : Nat := sm a (sq (sm a (sq (sq (sm a (sq (sm a (sm a (sm a (sm a (sq a)))))))))))

theorem sq_pow {a r k : Nat} (h : r = a ^ k % 12107) : sq r = a ^ (2 * k) % 12107 := by
  show r * r % 12107 = _
  rw [h, mod_mul_mod, mul_mod_mod, ← Nat.pow_add]
  congr 2; omega

theorem sm_pow {a r k : Nat} (h : r = a ^ k % 12107) : sm a r = a ^ (2 * k + 1) % 12107 := by
  show r * r % 12107 * a % 12107 = _
  rw [show r * r % 12107 = a ^ (2 * k) % 12107 from sq_pow h, mod_mul_mod, ← Nat.pow_succ]

theorem chi_pow {a : Nat} (h : a < 12107) : chi a = a ^ eH % 12107 := by
  have h0 : a = a ^ 1 % 12107 := by rw [Nat.pow_one, Nat.mod_eq_of_lt h]
  have h1 := sm_pow (sm_pow (sm_pow (sm_pow (sq_pow h0))))
  have h2 := sq_pow (sq_pow (sm_pow (sq_pow h1)))
  have h3 := sm_pow (sq_pow (sm_pow h2))
  generalize he : 2 * (2 * (2 * (2 * (2 * (2 * (2 * (2 * (2 * (2 * (2 * (2 * 1) + 1) + 1) + 1) + 1)) + 1))) + 1)) + 1 = k at h3
  have hk : k = eH := by rw [← he]; rfl
  rw [← hk]; exact h3

def good (a : Nat) : Bool := Nat.beq (chi a) 1 || Nat.beq (chi a) 12106 || Nat.beq (Nat.mod a 12107) 0
def goods : Nat → Nat → Bool
  | 0, lo => good lo
  | k + 1, lo => goods k lo && goods k (Nat.add lo (Nat.pow 2 k))

theorem goods_all : ∀ (k lo : Nat), goods k lo = true → ∀ a, lo ≤ a → a < lo + 2 ^ k → good a = true
  | 0, lo, h, a, h0, h1 => by
    have : a = lo := by simp at h1; omega
    rw [this]; exact h
  | k + 1, lo, h, a, h0, h1 => by
    simp only [goods, Bool.and_eq_true] at h
    by_cases hc : a < lo + 2 ^ k
    · exact goods_all k lo h.1 a h0 hc
    · refine goods_all k (lo + 2 ^ k) h.2 a (by omega) ?_
      rw [Nat.pow_succ] at h1; omega

set_option maxRecDepth 100000 in
theorem goods_here : goods 14 0 = true := by decide +kernel

theorem chi_two {a : Nat} (h0 : a % 12107 ≠ 0) (h : a < 12107) : a ^ eH % 12107 = 1 ∨ a ^ eH % 12107 = 12106 := by
  have g := goods_all 14 0 goods_here a (Nat.zero_le _) (by omega)
  have g' : chi a = 1 ∨ chi a = 12106 := by
    unfold good at g
    simp only [Bool.or_eq_true, Nat.beq_eq] at g
    rcases g with (g | g) | g
    · exact .inl g
    · exact .inr g
    · exact absurd g h0
  rw [chi_pow h] at g'
  exact g'

/-- What is not 0 to 12106 is 1. -/
theorem fermat {a : Nat} (h0 : 0 < a) (h : a < 12107) : a ^ eF % 12107 = 1 := by
  have e : a ^ eF = a ^ eH * a ^ eH := by rw [← Nat.pow_add, eHH]
  rw [e, Nat.mul_mod]
  rcases chi_two (by omega) h with h1 | h1 <;> rw [h1]

theorem fpPow_fermat {a : Int} (h0 : 0 < a) (h : a < 12107) : fpPow a 12106 = 1 := by
  have e : nat a = a.toNat := by unfold nat; rw [fp_small (by omega) h]
  have := fpPow_nat a eF
  rw [e, fermat (by omega) (by omega)] at this
  exact this

theorem fpMul_inv {a : Int} (h0 : 0 < a) (h : a < 12107) : fpMul a (fpPow a 12105) = 1 := by
  have e : nat a = a.toNat := by unfold nat; rw [fp_small (by omega) h]
  have := fpPow_nat a eI
  rw [e] at this
  rw [show (12105 : Int) = ((eI : Nat) : Int) from rfl, this, fpMul_eq]
  obtain ⟨n, rfl⟩ : ∃ n : Nat, a = n := ⟨a.toNat, by omega⟩
  rw [Int.toNat_natCast]
  have f := fermat (a := n) (by omega) (by omega)
  rw [← eII, Nat.pow_succ', ← mul_mod_mod] at f
  unfold fp
  omega

/-- A root's power and its square. -/
theorem root_sq {n : Nat} (h0 : 0 < n) (h : n < 12107) : (n ^ eQ % 12107) * (n ^ eQ % 12107) % 12107 = if n ^ eH % 12107 = 1 then n else 12107 - n := by
  have e : (n ^ eQ % 12107) * (n ^ eQ % 12107) % 12107 = n * (n ^ eH % 12107) % 12107 := by
    rw [mod_mul_mod, mul_mod_mod, mul_mod_mod, ← Nat.pow_add, ← Nat.pow_succ', eQQ]
  rw [e]
  rcases chi_two (by omega) h with h1 | h1 <;> rw [h1]
  · simp; omega
  · rw [if_neg (by decide)]; omega

theorem nat_of {n : Nat} (h : n < 12107) : nat (n : Int) = n := by unfold nat; rw [fp_small (by omega) (by omega)]; simp

theorem rootX_nat {n : Nat} (h : n < 12107) : rootX n = ((n ^ eQ % 12107 : Nat) : Int) := by
  unfold rootX
  have := fpPow_nat (n : Int) eQ
  rw [nat_of h] at this
  exact this

theorem fpMul_nat (a b : Nat) : fpMul (a : Int) (b : Int) = ((a * b % 12107 : Nat) : Int) := by
  rw [fpMul_eq]; unfold fp; omega

theorem rootB_nat {n : Nat} (h0 : 0 < n) (h : n < 12107) : rootB n = decide (n ^ eH % 12107 = 1) := by
  unfold rootB
  rw [rootX_nat h, fpMul_nat, root_sq h0 h, fp_small (by omega) (by omega)]
  rcases chi_two (by omega) h with h1 | h1 <;> rw [h1]
  · simp
  · simp; omega

theorem rootV_two {n : Nat} (hb : rootB n = true) : rootV n = rootX n ∨ rootV n = fpSub 0 (rootX n) := by
  unfold rootV
  rw [if_pos hb]
  split
  · exact .inr rfl
  · exact .inl rfl

theorem fp_neg_sq (x : Int) : fpMul (fpSub 0 x) (fpSub 0 x) = fpMul x x := by
  rw [fpMul_eq, fpMul_eq, fpSub_eq, fp_mul_left, fp_mul_right, Int.zero_sub, Int.neg_mul_neg]

/-- What has a root is the square of it. -/
theorem root_right {n : Nat} (h : n < 12107) (hb : rootB n = true) : fpMul (rootV n) (rootV n) = n := by
  have e : fpMul (rootX n) (rootX n) = n := by
    have := of_decide_eq_true hb
    rw [this, fp_small (by omega) (by omega)]
  rcases rootV_two hb with hv | hv <;> rw [hv]
  · exact e
  · rw [fp_neg_sq]; exact e

/-- A square has roots: the number and the one that makes 0 with it. -/
theorem root_square {n : Nat} (h0 : 0 < n) (h : n < 12107) : rootB (fpMul n n) = true ∧ (rootV (fpMul n n) = n ∨ fpAdd (rootV (fpMul n n)) n = 0) := by
  have hq0 : 0 < n * n % 12107 := by
    refine Nat.pos_of_ne_zero fun e => ?_
    have f := fermat h0 h
    obtain ⟨g, hg⟩ := eF2
    rw [hg, Nat.pow_add, ← mod_mul_mod, Nat.pow_two, e] at f
    simp at f
  have hq : n * n % 12107 < 12107 := Nat.mod_lt _ (by decide)
  rw [fpMul_nat]
  have hb : rootB ((n * n % 12107 : Nat) : Int) = true := by
    rw [rootB_nat hq0 hq, pow_mod_mod, ← Nat.pow_two, ← Nat.pow_mul, e2H, fermat h0 h]; rfl
  refine ⟨hb, ?_⟩
  have hx : rootX ((n * n % 12107 : Nat) : Int) = ((n * (n ^ eH % 12107) % 12107 : Nat) : Int) := by
    rw [rootX_nat hq, pow_mod_mod, mul_mod_mod, ← Nat.pow_two, ← Nat.pow_mul, ← Nat.pow_succ', e2Q]
  have hx' : rootX ((n * n % 12107 : Nat) : Int) = n ∨ rootX ((n * n % 12107 : Nat) : Int) = 12107 - n := by
    rw [hx]
    rcases chi_two (by omega) h with h1 | h1 <;> rw [h1]
    · left; omega
    · right; omega
  have hv := rootV_two hb
  unfold fpSub fpAdd at *
  unfold fp at *
  omega

theorem root_product {a b : Nat} (a0 : 0 < a) (a1 : a < 12107) (b0 : 0 < b) (b1 : b < 12107) : rootB (fpMul a b) = (rootB a == rootB b) := by
  have fa := chi_two (by omega) a1
  have fb := chi_two (by omega) b1
  have hm : (a * b % 12107) ^ eH % 12107 = (a ^ eH % 12107) * (b ^ eH % 12107) % 12107 := by
    rw [pow_mod_mod, Nat.mul_pow, mod_mul_mod, mul_mod_mod]
  have hq : a * b % 12107 < 12107 := Nat.mod_lt _ (by decide)
  have hq0 : 0 < a * b % 12107 := by
    refine Nat.pos_of_ne_zero fun e => ?_
    rw [e, Nat.zero_pow (by decide)] at hm
    rcases fa with h1 | h1 <;> rcases fb with h2 | h2 <;> rw [h1, h2] at hm <;> simp at hm
  rw [fpMul_nat, rootB_nat hq0 hq, rootB_nat a0 a1, rootB_nat b0 b1, hm]
  rcases fa with h1 | h1 <;> rcases fb with h2 | h2 <;> rw [h1, h2] <;> decide

end Go.Proofs.Ytkmelamfohfdkab
