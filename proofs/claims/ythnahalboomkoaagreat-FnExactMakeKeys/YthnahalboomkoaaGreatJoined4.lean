/-
  Texts of one's own, joined.
-/
import Derived.Test.YthnahalboomkoaaGreatJoined3
import Derived.Test.YthnahalboomkoaaGreatScPure
import Derived.ProofKit
import Derived.Test.YthnahalboomkoaaGreatTwoPure
import Derived.Test.YthnahalboomkoaaGreatJoined2

/-
  Keys, and what they sign.
-/
namespace Go.Proofs.YthnahalboomkoaaGreat

/-- The key of a secret, and what it signs. -/
def keyP (k : Int) : Pt := pTimes (sca k) pB
def signP (k : Int) (H : Pt) : Pt := pTimes (sca k) H

theorem sca_nat (k : Int) : sca k = (scn k : Int) ∧ scn k < 1009 := by
  have h0 := sca_nonneg k
  have h1 := sca_lt k
  unfold scn
  omega

theorem key_mul (k : Int) : keyP k = pMul pB (scn k) := by
  unfold keyP
  obtain ⟨h1, h2⟩ := sca_nat k
  rw [h1, ptimes_small pb_ok (by omega)]

end Go.Proofs.YthnahalboomkoaaGreat

/-
  Lines of three points and of their sums, at a point: their products are alike but for numbers of the field.
-/
namespace Go.Proofs.YthnahalboomkoaaGreat

section
variable {a b c d x y x1 x3 : Int}

end

/-- A line of slope l through two points, and their sum. -/
structure Ad (l u1 v1 u2 v2 u3 v3 : Int) : Prop where
  on : Dv (v2 - (v1 + l * (u2 - u1)))
  third : Dv (u3 - (l ^ 2 - u1 - u2))
  turn : Dv (v3 + (v1 + l * (u3 - u1)))
  two : Dv (u1 * u2 + (u1 + u2) * u3 - (1 - 2 * l * (v1 - l * u1)))

theorem Ad.swap {l u1 v1 u2 v2 u3 v3 : Int} (h : Ad l u1 v1 u2 v2 u3 v3) : Ad l u2 v2 u1 v1 u3 v3 :=
  ⟨h.on.neg.of (by grind), h.third.of (by grind), (h.turn.add h.on).of (by grind), (h.two.add (h.on.mul (2 * l))).of (by grind)⟩

/-- What goes with the slopes: nothing hangs on the order. -/
def SameC (a c e f b d g h : Int) : Prop := Dv ((a + c) - (b + d)) ∧ Dv ((e + a * c) - (g + b * d)) ∧ Dv ((e ^ 2 + 1 - a * c * e + (a - c) * f) - (g ^ 2 + 1 - b * d * g + (b - d) * h))
theorem SameC.swap {a c e f b d g h : Int} (k : SameC a c e f b d g h) : SameC b d g h a c e f := ⟨k.1.neg.of (by grind), k.2.1.neg.of (by grind), k.2.2.neg.of (by grind)⟩
theorem SameC.to {a c e f b d g h e' f' g' h' : Int} (k : SameC a c e f b d g h) (he : Dv (e - e')) (hf : Dv (f - f')) (hg : Dv (g - g')) (hh : Dv (h - h')) : SameC a c e' f' b d g' h' :=
  ⟨k.1, ((k.2.1.sub he).add hg).of (by grind), ((((k.2.2.sub (he.mul (e + e' - a * c))).sub (hf.mul (a - c))).add (hg.mul (g + g' - b * d))).add (hh.mul (b - d))).of (by grind)⟩

section
variable {a b c d u1 v1 u2 v2 u3 v3 e f g h k1 k2 k3 k4 : Int}

end
end Go.Proofs.YthnahalboomkoaaGreat

/-
  A number two by two to 12107 is the number turned.
-/
namespace Go.Proofs.YthnahalboomkoaaGreat

def q2 (p : Nat × Nat) : Nat × Nat := (Nat.mod (Nat.mul (Nat.add p.1 p.2) (Nat.sub (Nat.add p.1 12107) p.2)) 12107, Nat.mod (Nat.mul (Nat.mul 2 p.1) p.2) 12107)
def o2 (c : Nat) (p : Nat × Nat) : Nat × Nat := (Nat.mod (Nat.add p.1 (Nat.mul (Nat.sub 12107 p.2) c)) 12107, Nat.mod (Nat.add (Nat.mul p.1 c) p.2) 12107)
def m2 (c : Nat) (p : Nat × Nat) : Nat × Nat := o2 c (q2 p)
/-- 1 and c, to 12107. -/
def frob (c : Nat) : Nat × Nat := m2 c (m2 c (q2 (m2 c (q2 (q2 (m2 c (q2 (m2 c (m2 c (m2 c (m2 c (q2 (1, c)))))))))))))

end Go.Proofs.YthnahalboomkoaaGreat

/-
  Powers of numbers two by two that leave numbers of the field out; products of lines along a group.
-/
namespace Go.Proofs.YthnahalboomkoaaGreat

theorem gp_gp (x : Int × Int) (m : Nat) : ∀ n, gp (gp x m) n = gp x (m * n)
  | 0 => rfl
  | n + 1 => by
    show gm (gp (gp x m) n) (gp x m) = _
    rw [gp_gp x m n, Nat.mul_succ, gp_add]

/-- A power in the field. -/
def pw (x : Int × Int) (n : Nat) : Int × Int := fp2 (gp x n)
theorem in2_pw (x : Int × Int) (n : Nat) : In2 (pw x n) := in2_fp2 _
theorem pw_zero (x : Int × Int) : pw x 0 = (1, 0) := rfl
theorem pw_add (x : Int × Int) (m n : Nat) : pw x (m + n) = tm (pw x m) (pw x n) := by unfold pw tm; rw [fp2_gm, gp_add]
theorem pw_one {x : Int × Int} (h : In2 x) : pw x 1 = x := by unfold pw; rw [gp_one, fp2_in h]
theorem pw_succ {x : Int × Int} (h : In2 x) (n : Nat) : pw x (n + 1) = tm (pw x n) x := by rw [pw_add, pw_one h]
theorem pw_pw (x : Int × Int) (m n : Nat) : pw (pw x m) n = pw x (m * n) := by unfold pw; rw [fp2_gp, gp_gp]
theorem pw_tm (x y : Int × Int) (n : Nat) : pw (tm x y) n = tm (pw x n) (pw y n) := by unfold pw tm; rw [fp2_gp, gp_gm, fp2_gm]
theorem pw_ones (n : Nat) : pw (1, 0) n = (1, 0) := by unfold pw; rw [gp_plain, Int.one_pow]; rfl
theorem tp_pw (x : Int × Int) (n : Nat) : tp x (n : Int) = pw x n := tp_nat x n

end Go.Proofs.YthnahalboomkoaaGreat

/-
  What is Zero 1009 times is a multiple of the base.
-/
namespace Go.Proofs.YthnahalboomkoaaGreat

/-- Of a point that is Zero 1009 times only the rest counts. -/
theorem pmul_rest {P : Pt} (h : POk P) (h9 : pMul P 1009 = pZ) (n : Nat) : pMul P n = pMul P (n % 1009) := by
  have e : n = 1009 * (n / 1009) + n % 1009 := by omega
  have h1 : pMul P (1009 * (n / 1009)) = pZ := by rw [← pmul_mul h, h9, pmul_zero]
  have h2 := pmul_add h (1009 * (n / 1009)) (n % 1009)
  rw [← e, h1] at h2
  exact h2

/-- It comes back from so many of it. -/
theorem pmul_back {P : Pt} (h : POk P) (h9 : pMul P 1009 = pZ) {a : Nat} (a0 : 0 < a) (a1 : a < 1009) : pMul (pMul P a) (a ^ eS % 1009) = P := by
  rw [pmul_mul h, pmul_rest h h9, sca_inv_nat a0 a1, pmul_one]

theorem pb_ne : pB ≠ pZ := by decide

theorem pb_inj {i j : Nat} (hi : i < 1009) (hj : j < 1009) (h : pMul pB i = pMul pB j) : i = j := by
  have key : ∀ {i j : Nat}, i < j → j < 1009 → pMul pB i = pMul pB j → False := by
    intro i j hij hj h
    have e : pMul pB j = pAdd (pMul pB (j - i)) (pMul pB i) := by rw [← pmul_add pb_ok]; exact congrArg _ (by omega)
    rw [e] at h
    have h0 : pMul pB (j - i) = pZ := (padd_drop pz_ok (pmul_ok pb_ok (j - i)) (pmul_ok pb_ok i) h).symm
    have hb := pmul_back pb_ok b1009 (a := j - i) (by omega) (by omega)
    rw [h0, pmul_zero] at hb
    exact pb_ne hb.symm
  rcases Nat.lt_trichotomy i j with h1 | h1 | h1
  · exact (key h1 hj h).elim
  · exact h1
  · exact (key h1 hi h.symm).elim

end Go.Proofs.YthnahalboomkoaaGreat

/-
  Pairs of points as the program and the specification tell of them, whatever the points are.
-/
namespace Go.Proofs.YthnahalboomkoaaGreat

theorem pb_zero {i : Nat} (h : i < 1009) : pMul pB i = pZ ↔ i = 0 := by
  constructor
  · intro e
    exact pb_inj h (by decide) e
  · rintro rfl; rfl

theorem zero_flag {P : Pt} (h : POk P) : P.2.2 = true ↔ P = pZ := by
  rcases h with rfl | h
  · exact ⟨fun _ => rfl, fun _ => rfl⟩
  · exact ⟨fun e => (by rw [h.1] at e; cases e), fun e => (by rw [e]; rfl)⟩

theorem ing_mul (i : Nat) : inGB (pMul pB i) = true := ing_iff.2 ⟨pmul_ok pb_ok i, by rw [pmul_mul pb_ok, Nat.mul_comm, ← pmul_mul pb_ok, b1009, pmul_zero]⟩

end Go.Proofs.YthnahalboomkoaaGreat

/-
  Signatures as the document tells of them: what is signed is right.
-/
namespace Go.Proofs.YthnahalboomkoaaGreat

theorem mulb_zero {a : Nat} (h : a < 1009) : (pMul pB a).2.2 = decide (a = 0) := by
  have f := zero_flag (pmul_ok pb_ok a)
  rw [pb_zero h] at f
  by_cases h0 : a = 0
  · rw [f.2 h0, decide_eq_true h0]
  · rw [decide_eq_false h0]
    cases hz : (pMul pB a).2.2
    · rfl
    · exact absurd (f.1 hz) h0

theorem mulb_rest (n : Nat) : pMul pB n = pMul pB (n % 1009) := pmul_rest pb_ok b1009 n

end Go.Proofs.YthnahalboomkoaaGreat
