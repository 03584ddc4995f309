/-
  A number two by two to 12107 is the number turned.
-/
import Derived.Test.YtkmelamfohfdkabDoorJoined3
namespace Go.Proofs.YtkmelamfohfdkabDoor

def q2 (p : Nat × Nat) : Nat × Nat := (Nat.mod (Nat.mul (Nat.add p.1 p.2) (Nat.sub (Nat.add p.1 12107) p.2)) 12107, Nat.mod (Nat.mul (Nat.mul 2 p.1) p.2) 12107)
def o2 (c : Nat) (p : Nat × Nat) : Nat × Nat := (Nat.mod (Nat.add p.1 (Nat.mul (Nat.sub 12107 p.2) c)) 12107, Nat.mod (Nat.add (Nat.mul p.1 c) p.2) 12107)
def m2 (c : Nat) (p : Nat × Nat) : Nat × Nat := o2 c (q2 p)
/-- 1 and c, to 12107. -/
def frob (c : Nat) : Nat × Nat := m2 c (m2 c (q2 (m2 c (q2 (q2 (m2 c (q2 (m2 c (m2 c (m2 c (m2 c (q2 (1, c)))))))))))))

/-- A pair of numbers that are not below 0, as a number two by two. -/
def cst (p : Nat × Nat) : Int × Int := ((p.1 : Int), (p.2 : Int))

theorem q2_cst {p : Nat × Nat} (h : p.2 ≤ 12107) : cst (q2 p) = fp2 (gm (cst p) (cst p)) := by
  obtain ⟨u, v⟩ := p
  unfold cst q2 fp2 gm fp
  have e : (u : Int) * u - (v : Int) * v = ((u + v : Nat) : Int) * ((u + 12107 - v : Nat) : Int) + 12107 * (-((u : Int) + v)) := by
    have : ((u + 12107 - v : Nat) : Int) = (u : Int) + 12107 - v := by simp only at h; omega
    rw [this]; grind
  have e' : (u : Int) * v + (v : Int) * u = ((2 * u * v : Nat) : Int) := by
    simp; grind
  simp only
  rw [e, e']
  ext
  · show ((((u + v) * (u + 12107 - v)) % 12107 : Nat) : Int) = _
    simp
  · show (((2 * u * v) % 12107 : Nat) : Int) = _
    simp

theorem o2_cst {c : Nat} {p : Nat × Nat} (h : p.2 ≤ 12107) : cst (o2 c p) = fp2 (gm (cst p) (1, (c : Int))) := by
  obtain ⟨u, v⟩ := p
  unfold cst o2 fp2 gm fp
  have e : (u : Int) * 1 - (v : Int) * c = (u : Int) + ((12107 - v : Nat) : Int) * c + 12107 * (-(c : Int)) := by
    have : ((12107 - v : Nat) : Int) = (12107 : Int) - v := by simp only at h; omega
    rw [this]; grind
  simp only
  rw [e, Int.mul_one]
  ext
  · show (((u + (12107 - v) * c) % 12107 : Nat) : Int) = _
    simp
  · show (((u * c + v) % 12107 : Nat) : Int) = _
    simp

theorem cst_le {p : Nat × Nat} {x : Int × Int} (h : cst p = fp2 x) : p.2 ≤ 12107 := by
  have h1 : ((p.2 : Nat) : Int) = fp x.2 := congrArg Prod.snd h
  have := fp_lt x.2
  omega

theorem q2_gp {c k : Nat} {p : Nat × Nat} (h : cst p = fp2 (gp (1, (c : Int)) k)) : cst (q2 p) = fp2 (gp (1, (c : Int)) (2 * k)) := by
  rw [q2_cst (cst_le h), h, fp2_gm, ← gp_add]
  congr 2; omega

theorem o2_gp {c k : Nat} {p : Nat × Nat} (h : cst p = fp2 (gp (1, (c : Int)) k)) : cst (o2 c p) = fp2 (gp (1, (c : Int)) (k + 1)) := by
  rw [o2_cst (cst_le h), h, fp2_left]
  rfl

theorem m2_gp {c k : Nat} {p : Nat × Nat} (h : cst p = fp2 (gp (1, (c : Int)) k)) : cst (m2 c p) = fp2 (gp (1, (c : Int)) (2 * k + 1)) := o2_gp (q2_gp h)

/-- The field's size, by name. -/
def eP : Nat := 12107
theorem eP_eq : eP = eF + 1 := rfl

theorem frob_gp {c : Nat} (h : c < 12107) : cst (frob c) = fp2 (gp (1, (c : Int)) eP) := by
  have h0 : cst (1, c) = fp2 (gp (1, (c : Int)) 1) := by
    rw [gp_one]; unfold cst fp2; simp only
    rw [fp_small (by omega) (by omega), fp_small (by omega) (by omega)]; rfl
  have h1 := m2_gp (m2_gp (m2_gp (m2_gp (q2_gp h0))))
  have h2 := q2_gp (q2_gp (m2_gp (q2_gp h1)))
  have h3 := m2_gp (m2_gp (q2_gp (m2_gp h2)))
  generalize he : 2 * (2 * (2 * (2 * (2 * (2 * (2 * (2 * (2 * (2 * (2 * (2 * (2 * 1) + 1) + 1) + 1) + 1)) + 1))) + 1)) + 1) + 1 = k at h3
  have hk : k = eP := by rw [← he]; rfl
  rw [← hk]; exact h3

def fits (c : Nat) : Bool := Nat.beq (frob c).1 1 && Nat.beq (frob c).2 (Nat.mod (Nat.sub 12107 c) 12107)
def fitsAll : Nat → Nat → Bool
  | 0, lo => fits lo
  | k + 1, lo => fitsAll k lo && fitsAll k (Nat.add lo (Nat.pow 2 k))

theorem fits_all : ∀ (k lo : Nat), fitsAll k lo = true → ∀ a, lo ≤ a → a < lo + 2 ^ k → fits a = true
  | 0, lo, h, a, h0, h1 => by
    have : a = lo := by simp at h1; omega
    rw [this]; exact h
  | k + 1, lo, h, a, h0, h1 => by
    simp only [fitsAll, Bool.and_eq_true] at h
    by_cases hc : a < lo + 2 ^ k
    · exact fits_all k lo h.1 a h0 hc
    · refine fits_all k (lo + 2 ^ k) h.2 a (by omega) ?_
      rw [Nat.pow_succ] at h1; omega

set_option maxRecDepth 100000 in
theorem fits_low : fitsAll 13 0 = true := by decide +kernel
set_option maxRecDepth 100000 in
theorem fits_high : fitsAll 13 3915 = true := by decide +kernel

theorem frob_one {c : Nat} (h : c < 12107) : fp2 (gp (1, (c : Int)) eP) = (1, fp (0 - (c : Int))) := by
  have g : fits c = true := by
    by_cases hc : c < 8192
    · exact fits_all 13 0 fits_low c (by omega) (by omega)
    · exact fits_all 13 3915 fits_high c (by omega) (by omega)
  unfold fits at g
  simp only [Bool.and_eq_true, Nat.beq_eq] at g
  rw [← frob_gp h]
  unfold cst
  rw [g.1, g.2]
  ext
  · rfl
  · show (((12107 - c) % 12107 : Nat) : Int) = _
    unfold fp; omega

/-- A number two by two to 12107 is the number turned. -/
theorem tp_frob {x : Int × Int} (h : In2 x) (h0 : x.1 ≠ 0) : tp x 12107 = tt x := by
  obtain ⟨a, b⟩ := x
  obtain ⟨⟨a0, a1⟩, b0, b1⟩ := h
  simp only at a0 a1 b0 b1 h0
  obtain ⟨m, rfl⟩ : ∃ m : Nat, a = m := ⟨a.toNat, by omega⟩
  have hn := fpMul_inv (a := (m : Int)) (by omega) a1
  rw [fpMul_eq] at hn
  obtain ⟨n, hn'⟩ : ∃ n, n = fpPow (m : Int) 12105 := ⟨_, rfl⟩
  rw [← hn'] at hn
  obtain ⟨c, hc⟩ : ∃ c : Nat, (c : Int) = fp (b * n) := ⟨(fp (b * n)).toNat, by have := fp_nonneg (b * n); omega⟩
  have hcl : c < 12107 := by have := fp_lt (b * n); omega
  obtain ⟨k, hk⟩ := fp_rep (b * n)
  obtain ⟨l, hl⟩ := fp_rep ((m : Int) * n)
  have hx : ((m : Int), b) = fp2 (gm ((m : Int), 0) (1, (c : Int))) := by
    unfold fp2 gm
    ext
    · simp only [Int.mul_one, Int.zero_mul, Int.sub_zero]; exact (fp_small a0 a1).symm
    · simp only [Int.zero_mul, Int.add_zero]
      rw [hc, hk]
      refine ((fp_to (y := b) (-l * b + m * k) ?_).trans (fp_small b0 b1)).symm
      rw [hl] at hn
      grind
  have hp : fp ((m : Int) ^ eP) = (m : Int) := by
    have e : (m : Int) ^ eP = ((m ^ eP : Nat) : Int) := by simp
    rw [e, eP_eq, Nat.pow_succ]
    have f := fermat (a := m) (by omega) (by omega)
    unfold fp
    have : (m ^ eF * m) % 12107 = m := by rw [Nat.mul_mod, f, Nat.one_mul, Nat.mod_mod, Nat.mod_eq_of_lt (by omega)]
    omega
  have ht : tp ((m : Int), b) 12107 = fp2 (gp ((m : Int), b) eP) := tp_nat _ eP
  have hg : fp2 ((m : Int) ^ eP, 0) = ((m : Int), 0) := by unfold fp2; simp only; rw [hp]; rfl
  rw [ht, hx, fp2_gp, gp_gm, gp_plain, ← fp2_gm, frob_one hcl, hg]
  rw [← hx]
  unfold fp2 gm tt
  ext
  · simp only [Int.mul_one, Int.zero_mul, Int.sub_zero]; exact fp_small a0 a1
  · simp only [Int.zero_mul, Int.add_zero]
    obtain ⟨j, hj⟩ := fp_rep (0 - (c : Int))
    rw [hj, hc, hk]
    refine fp_to (l * b - m * k + m * j) ?_
    rw [hl] at hn
    grind

end Go.Proofs.YtkmelamfohfdkabDoor
