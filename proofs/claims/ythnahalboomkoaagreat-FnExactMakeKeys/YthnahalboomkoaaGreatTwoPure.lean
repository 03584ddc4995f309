/-
  Numbers two by two, with one whose square is -1: plain mathematics.
-/
import Derived.Test.YthnahalboomkoaaGreatJoined1

namespace Go.Proofs.YthnahalboomkoaaGreat

/-- A product, with nothing brought into the field. -/
def gm (x y : Int × Int) : Int × Int := (x.1 * y.1 - x.2 * y.2, x.1 * y.2 + x.2 * y.1)
/-- Both parts brought into the field. -/
def fp2 (x : Int × Int) : Int × Int := (fp x.1, fp x.2)
/-- A power, with nothing brought into the field. -/
def gp (x : Int × Int) : Nat → Int × Int
  | 0 => (1, 0)
  | n + 1 => gm (gp x n) x

theorem gm_comm (x y : Int × Int) : gm x y = gm y x := by
  unfold gm; ext <;> simp <;> grind
theorem gm_assoc (x y z : Int × Int) : gm (gm x y) z = gm x (gm y z) := by
  unfold gm; ext <;> simp <;> grind
theorem gm_one (x : Int × Int) : gm x (1, 0) = x := by
  unfold gm; ext <;> simp
theorem one_gm (x : Int × Int) : gm (1, 0) x = x := by
  unfold gm; ext <;> simp
theorem gm_swap (x y z : Int × Int) : gm (gm x y) z = gm (gm x z) y := by
  rw [gm_assoc, gm_comm y z, ← gm_assoc]

theorem gp_add (x : Int × Int) (m : Nat) : ∀ n, gp x (m + n) = gm (gp x m) (gp x n)
  | 0 => (gm_one _).symm
  | n + 1 => by
    show gm (gp x (m + n)) x = gm (gp x m) (gm (gp x n) x)
    rw [gp_add x m n, gm_assoc]

theorem gp_gm (x y : Int × Int) : ∀ n, gp (gm x y) n = gm (gp x n) (gp y n)
  | 0 => (gm_one _).symm
  | n + 1 => by
    show gm (gp (gm x y) n) (gm x y) = gm (gm (gp x n) x) (gm (gp y n) y)
    rw [gp_gm x y n, gm_assoc, gm_assoc, ← gm_assoc (gp y n), gm_comm (gp y n) x, gm_assoc]

theorem gp_one (x : Int × Int) : gp x 1 = x := one_gm x
theorem gp_two (x : Int × Int) : gp x 2 = gm x x := by
  show gm (gp x 1) x = _
  rw [gp_one]

theorem gp_plain (a : Int) : ∀ n : Nat, gp (a, 0) n = (a ^ n, 0)
  | 0 => by simp [gp]
  | n + 1 => by
    show gm (gp (a, 0) n) (a, 0) = _
    rw [gp_plain a n]
    simp [gm, Int.pow_succ]

theorem fp_rep (x : Int) : ∃ k, fp x = x + 12107 * k := ⟨-(x / 12107), by unfold fp; omega⟩
theorem fp_put_mul (x k : Int) : fp (x + 12107 * k) = fp x := by unfold fp; omega
theorem fp_to {x y : Int} (k : Int) (h : x = y + 12107 * k) : fp x = fp y := by rw [h, fp_put_mul]

theorem fp2_left (x y : Int × Int) : fp2 (gm (fp2 x) y) = fp2 (gm x y) := by
  obtain ⟨k, hk⟩ := fp_rep x.1
  obtain ⟨l, hl⟩ := fp_rep x.2
  unfold fp2 gm
  simp only [hk, hl]
  ext
  · exact fp_to (k * y.1 - l * y.2) (by grind)
  · exact fp_to (k * y.2 + l * y.1) (by grind)
theorem fp2_right (x y : Int × Int) : fp2 (gm x (fp2 y)) = fp2 (gm x y) := by
  rw [gm_comm, fp2_left, gm_comm]
theorem fp2_gm (x y : Int × Int) : fp2 (gm (fp2 x) (fp2 y)) = fp2 (gm x y) := by rw [fp2_left, fp2_right]

theorem fp2_gp (x : Int × Int) : ∀ n, fp2 (gp (fp2 x) n) = fp2 (gp x n)
  | 0 => rfl
  | n + 1 => by
    show fp2 (gm (gp (fp2 x) n) (fp2 x)) = fp2 (gm (gp x n) x)
    rw [fp2_right, ← fp2_left, fp2_gp x n, fp2_left]

/-- A number two by two of the field. -/
def In2 (x : Int × Int) : Prop := (0 ≤ x.1 ∧ x.1 < 12107) ∧ (0 ≤ x.2 ∧ x.2 < 12107)
theorem in2_fp2 (x : Int × Int) : In2 (fp2 x) := ⟨⟨fp_nonneg _, fp_lt _⟩, ⟨fp_nonneg _, fp_lt _⟩⟩
theorem fp2_in {x : Int × Int} (h : In2 x) : fp2 x = x := by
  unfold fp2; rw [fp_small h.1.1 h.1.2, fp_small h.2.1 h.2.2]

/-- A product, a power, of the field. -/
def tm (x y : Int × Int) : Int × Int := fp2 (gm x y)
def tp (x : Int × Int) (n : Int) : Int × Int := if n < 0 then (0, 0) else fp2 (gp x n.toNat)
def ta (x y : Int × Int) : Int × Int := fp2 (x.1 + y.1, x.2 + y.2)
/-- What makes 1 with a sum of two squares. -/
def tn (x : Int × Int) : Int := fpPow (x.1 * x.1 + x.2 * x.2) 12105
def ti (x : Int × Int) : Int × Int := fp2 (x.1 * tn x, (0 - x.2) * tn x)

theorem tp_neg (x : Int × Int) {n : Int} (h : n < 0) : tp x n = (0, 0) := if_pos h
theorem tp_nat (x : Int × Int) (n : Nat) : tp x (n : Int) = fp2 (gp x n) := by unfold tp; rw [if_neg (by omega)]; simp

/-- -1 has no root: a sum of two squares is 0 for 0 alone. -/
theorem norm_nat {a b : Nat} (a0 : 0 < a) (a1 : a < 12107) (b1 : b < 12107) : (a * a + b * b) % 12107 ≠ 0 := by
  intro e
  have fa := fermat a0 a1
  have hE : ∀ x : Nat, (x * x) ^ eH = x ^ eF := fun x => by rw [← Nat.pow_two, ← Nat.pow_mul, e2H]
  have h1 : (12106 * (a * a)) % 12107 = (b * b) % 12107 := by omega
  have h2 : (12106 * (a * a)) ^ eH % 12107 = (b * b) ^ eH % 12107 := by rw [← pow_mod_mod, h1, pow_mod_mod]
  rw [Nat.mul_pow, hE, hE, ← mul_mod_mod, fa, Nat.mul_one, ← chi_pow (a := 12106) (by decide)] at h2
  have h3 : chi 12106 = 12106 := by decide +kernel
  rw [h3] at h2
  by_cases b0 : 0 < b
  · rw [fermat b0 b1] at h2; simp at h2
  · have : b = 0 := by omega
    subst this
    rw [Nat.zero_pow (by decide)] at h2; simp at h2

theorem norm_pos {x : Int × Int} (h : In2 x) (h0 : x ≠ (0, 0)) : 0 < fp (x.1 * x.1 + x.2 * x.2) := by
  obtain ⟨a, ha⟩ : ∃ a : Nat, x.1 = a := ⟨x.1.toNat, by have := h.1.1; omega⟩
  obtain ⟨b, hb⟩ : ∃ b : Nat, x.2 = b := ⟨x.2.toNat, by have := h.2.1; omega⟩
  obtain ⟨⟨_, h1⟩, ⟨_, h2⟩⟩ := h
  have h3 : (a * a + b * b) % 12107 ≠ 0 := by
    by_cases a0 : 0 < a
    · exact norm_nat a0 (by omega) (by omega)
    · by_cases b0 : 0 < b
      · rw [Nat.add_comm]; exact norm_nat b0 (by omega) (by omega)
      · exact absurd (by ext <;> simp <;> omega) h0
  rw [ha, hb]
  have e : (a : Int) * a + (b : Int) * b = ((a * a + b * b : Nat) : Int) := by simp
  rw [e]
  unfold fp
  omega

theorem fpMul_fp_left (a b : Int) : fpMul (fp a) b = fpMul a b := by rw [fpMul_eq, fpMul_eq, fp_mul_left]
theorem fpPow_fp0 (a n : Int) : fpPow (fp a) n = fpPow a n := by unfold fpPow nat; rw [fp_fp]

end Go.Proofs.YthnahalboomkoaaGreat
