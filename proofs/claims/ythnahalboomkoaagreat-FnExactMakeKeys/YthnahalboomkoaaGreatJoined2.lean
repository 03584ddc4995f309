/-
  Texts of one's own, joined.
-/
import Derived.ProofKit
import Derived.Test.YthnahalboomkoaaGreatTwoPure
import Derived.Test.YthnahalboomkoaaGreatEdIdX
import Derived.Test.YthnahalboomkoaaGreatEdIdY

/-
  A sum of two points of that curve is one: an identity.
-/
namespace Go.Proofs.YthnahalboomkoaaGreat

set_option maxHeartbeats 4000000 in
theorem closI (x1 y1 x2 y2 : Int) : (x1 * y2 + y1 * x2) ^ 2 * (1 + x1 * x2 * y1 * y2) ^ 2 + (y1 * y2 - x1 * x2) ^ 2 * (1 - x1 * x2 * y1 * y2) ^ 2 - (1 - x1 * x2 * y1 * y2) ^ 2 * (1 + x1 * x2 * y1 * y2) ^ 2 + (x1 * y2 + y1 * x2) ^ 2 * (y1 * y2 - x1 * x2) ^ 2 = (-x1^2*x2^4*y1^2*y2^4 + x1^2*x2^4*y2^4 + x1^2*x2^4*y2^2 + x1^2*x2^2*y2^4 + x2^4*y1^2*y2^4 + x2^4*y1^2*y2^2 - 3*x2^4*y2^4 - 2*x2^4*y2^2 + x2^4 + x2^2*y1^2*y2^4 - 2*x2^2*y2^4 + 6*x2^2*y2^2 + y2^4) * (x1 ^ 2 + y1 ^ 2 - 1 + x1 ^ 2 * y1 ^ 2) + (-x1^4*x2^2*y2^2 + 4*x1^2*x2^2*y2^2 - x1^2*x2^2 - x1^2*y2^2 - x2^2*y1^4*y2^2 + 4*x2^2*y1^2*y2^2 - x2^2*y1^2 - 3*x2^2*y2^2 + x2^2 - y1^2*y2^2 + y2^2 + 1) * (x2 ^ 2 + y2 ^ 2 - 1 + x2 ^ 2 * y2 ^ 2) := by grind

end Go.Proofs.YthnahalboomkoaaGreat

/-
  Points of the curve x x + y y + x x y y = 1 modulo 12107: a sum is one, alone, and sums go in any order.
-/
namespace Go.Proofs.YthnahalboomkoaaGreat

/-- 0 modulo the field's size. -/
def Dv (x : Int) : Prop := (12107 : Int) ∣ x
theorem Dv.add {a b : Int} (h : Dv a) (k : Dv b) : Dv (a + b) := Int.dvd_add h k
theorem Dv.sub {a b : Int} (h : Dv a) (k : Dv b) : Dv (a - b) := Int.dvd_sub h k
theorem Dv.mul {a : Int} (h : Dv a) (b : Int) : Dv (a * b) := Int.dvd_mul_of_dvd_left h
theorem Dv.mull {b : Int} (h : Dv b) (a : Int) : Dv (a * b) := Int.dvd_mul_of_dvd_right h
theorem Dv.neg {a : Int} (h : Dv a) : Dv (-a) := Int.dvd_neg.2 h
theorem Dv.of {a b : Int} (h : Dv b) (e : a = b) : Dv a := e ▸ h
theorem dv_zero : Dv 0 := Int.dvd_zero _
theorem dv_fp {a : Int} : Dv a ↔ fp a = 0 := by unfold Dv fp; omega
theorem dv_fp_sub (a : Int) : Dv (fp a - a) := by unfold Dv fp; omega
theorem dv_eq {a b : Int} (h : Dv (a - b)) : fp a = fp b := by unfold Dv at h; unfold fp; omega
theorem dv_of_eq {a b : Int} (h : fp a = fp b) : Dv (a - b) := by unfold Dv; unfold fp at h; omega
theorem dv_one : ¬ Dv 1 := by unfold Dv; omega
theorem dv_two : ¬ Dv 2 := by unfold Dv; omega

theorem inv_ex {a : Int} (h : ¬ Dv a) : ∃ i, Dv (a * i - 1) := by
  have h0 : 0 < fp a := by
    have := fp_nonneg a
    have : fp a ≠ 0 := fun e => h (dv_fp.2 e)
    omega
  have hm := fpMul_inv h0 (fp_lt a)
  rw [fpMul_eq] at hm
  refine ⟨fpPow (fp a) 12105, ?_⟩
  generalize fpPow (fp a) 12105 = i at hm
  have h1 : Dv (fp a * i - 1) := dv_of_eq (by rw [hm]; rfl)
  exact (h1.sub ((dv_fp_sub a).mul i)).of (by grind)

theorem dv_prime {a b : Int} (h : Dv (a * b)) (ha : ¬ Dv a) : Dv b := by
  obtain ⟨i, hi⟩ := inv_ex ha
  exact ((h.mul i).sub (hi.mul b)).of (by grind)

theorem dv_prime2 {a b : Int} (ha : ¬ Dv a) (hb : ¬ Dv b) : ¬ Dv (a * b) := fun h => hb (dv_prime h ha)

theorem sumsq {a b : Int} (h : Dv (a ^ 2 + b ^ 2)) : Dv a ∧ Dv b := by
  by_cases h0 : (fp a, fp b) = (0, 0)
  · exact ⟨dv_fp.2 (congrArg Prod.fst h0), dv_fp.2 (congrArg Prod.snd h0)⟩
  · have hp := norm_pos (x := (fp a, fp b)) ⟨⟨fp_nonneg _, fp_lt _⟩, fp_nonneg _, fp_lt _⟩ h0
    simp only at hp
    have h1 : Dv (fp a * fp a + fp b * fp b) := by
      obtain ⟨k, hk⟩ := fp_rep a
      obtain ⟨l, hl⟩ := fp_rep b
      rw [hk, hl]
      refine (h.add (?_ : Dv (12107 * (2 * a * k + 12107 * k * k + 2 * b * l + 12107 * l * l)))).of (by grind)
      exact ⟨_, rfl⟩
    have := dv_fp.1 h1
    omega

/-- A point of the curve. -/
def Ed (x y : Int) : Prop := Dv (x ^ 2 + y ^ 2 - 1 + x ^ 2 * y ^ 2)
/-- What makes a third one of two. -/
def Sm (x1 y1 x2 y2 x3 y3 : Int) : Prop := Dv (x3 * (1 - x1 * x2 * y1 * y2) - (x1 * y2 + y1 * x2)) ∧ Dv (y3 * (1 + x1 * x2 * y1 * y2) - (y1 * y2 - x1 * x2))

theorem Sm.swap {x1 y1 x2 y2 x3 y3 : Int} (h : Sm x1 y1 x2 y2 x3 y3) : Sm x2 y2 x1 y1 x3 y3 := ⟨h.1.of (by grind), h.2.of (by grind)⟩

theorem ed_minus {x1 y1 x2 y2 : Int} (h1 : Ed x1 y1) (h2 : Ed x2 y2) : ¬ Dv (1 - x1 * x2 * y1 * y2) := by
  intro h
  have a := sumsq (a := x1 - y1) (b := x1 * y1 * (x2 + y2)) (((h1.add (h2.mull (x1 ^ 2 * y1 ^ 2))).add (h.mul (1 + x1 * x2 * y1 * y2 - 2 * x1 * y1))).of (by grind))
  have b := sumsq (a := x1 + y1) (b := x1 * y1 * (x2 - y2)) (((h1.add (h2.mull (x1 ^ 2 * y1 ^ 2))).add (h.mul (1 + x1 * x2 * y1 * y2 + 2 * x1 * y1))).of (by grind))
  have c : Dv (2 * x1) := (a.1.add b.1).of (by grind)
  have d := dv_prime c dv_two
  exact dv_one ((h.add (d.mul (x2 * y1 * y2))).of (by grind))
theorem ed_plus {x1 y1 x2 y2 : Int} (h1 : Ed x1 y1) (h2 : Ed x2 y2) : ¬ Dv (1 + x1 * x2 * y1 * y2) := by
  intro h
  have a := sumsq (a := x1 + y1) (b := x1 * y1 * (x2 + y2)) (((h1.add (h2.mull (x1 ^ 2 * y1 ^ 2))).add (h.mul (1 - x1 * x2 * y1 * y2 + 2 * x1 * y1))).of (by grind))
  have b := sumsq (a := x1 - y1) (b := x1 * y1 * (x2 - y2)) (((h1.add (h2.mull (x1 ^ 2 * y1 ^ 2))).add (h.mul (1 - x1 * x2 * y1 * y2 - 2 * x1 * y1))).of (by grind))
  have c : Dv (2 * x1) := (a.1.add b.1).of (by grind)
  have d := dv_prime c dv_two
  exact dv_one ((h.sub (d.mul (x2 * y1 * y2))).of (by grind))

/-- A sum is a point of the curve. -/
theorem ed_sum {x1 y1 x2 y2 x3 y3 : Int} (h1 : Ed x1 y1) (h2 : Ed x2 y2) (h : Sm x1 y1 x2 y2 x3 y3) : Ed x3 y3 := by
  have hB := ed_minus h1 h2
  have hD := ed_plus h1 h2
  have hc : Dv ((x1 * y2 + y1 * x2) ^ 2 * (1 + x1 * x2 * y1 * y2) ^ 2 + (y1 * y2 - x1 * x2) ^ 2 * (1 - x1 * x2 * y1 * y2) ^ 2 - (1 - x1 * x2 * y1 * y2) ^ 2 * (1 + x1 * x2 * y1 * y2) ^ 2 + (x1 * y2 + y1 * x2) ^ 2 * (y1 * y2 - x1 * x2) ^ 2) := by
    rw [closI]
    exact (h1.mull _).add (h2.mull _)
  obtain ⟨ha, hb⟩ := h
  generalize (x1 * y2 + y1 * x2) = A at ha hc
  generalize (y1 * y2 - x1 * x2) = C at hb hc
  generalize (1 - x1 * x2 * y1 * y2) = B at ha hc hB
  generalize (1 + x1 * x2 * y1 * y2) = D at hb hc hD
  have hm : Dv (B * (B * (D * (D * (x3 ^ 2 + y3 ^ 2 - 1 + x3 ^ 2 * y3 ^ 2))))) :=
    ((hc.add (ha.mul ((x3 * B + A) * D ^ 2 + (x3 * B + A) * (y3 * D) ^ 2))).add (hb.mul ((y3 * D + C) * B ^ 2 + A ^ 2 * (y3 * D + C)))).of (by grind)
  exact dv_prime (dv_prime (dv_prime (dv_prime hm hB) hB) hD) hD

/-- A sum is one alone. -/
theorem ed_one {x1 y1 x2 y2 x3 y3 u v : Int} (h1 : Ed x1 y1) (h2 : Ed x2 y2) (h : Sm x1 y1 x2 y2 x3 y3) (k : Sm x1 y1 x2 y2 u v) : Dv (x3 - u) ∧ Dv (y3 - v) := by
  have hB := ed_minus h1 h2
  have hD := ed_plus h1 h2
  have a : Dv ((1 - x1 * x2 * y1 * y2) * (x3 - u)) := (h.1.sub k.1).of (by grind)
  have b : Dv ((1 + x1 * x2 * y1 * y2) * (y3 - v)) := (h.2.sub k.2).of (by grind)
  exact ⟨dv_prime a hB, dv_prime b hD⟩

theorem as_x {A B C D X Y x y s : Int} (ha : Dv (X * B - A)) (hc : Dv (Y * D - C)) (h : Dv (s * (1 - X * x * Y * y) - (X * y + Y * x))) : Dv (s * (B * D - A * C * x * y) - (A * D * y + C * B * x)) :=
  (((h.mul (B * D)).add (ha.mul (s * x * y * (Y * D) + D * y))).add (hc.mul (s * x * y * A + B * x))).of (by grind)
theorem as_y {A B C D X Y x y s : Int} (ha : Dv (X * B - A)) (hc : Dv (Y * D - C)) (h : Dv (s * (1 + X * x * Y * y) - (Y * y - X * x))) : Dv (s * (B * D + A * C * x * y) - (C * B * y - A * D * x)) :=
  (((h.mul (B * D)).sub (ha.mul (s * x * y * (Y * D) + D * x))).add (hc.mul (B * y - s * x * y * A))).of (by grind)
theorem as_nx {A B C D X Y x y : Int} (ha : Dv (X * B - A)) (hc : Dv (Y * D - C)) (hB : ¬ Dv B) (hD : ¬ Dv D) (h : ¬ Dv (1 - X * x * Y * y)) : ¬ Dv (B * D - A * C * x * y) := fun k =>
  dv_prime2 (dv_prime2 hB hD) h (((k.sub (ha.mul (x * y * (Y * D)))).sub (hc.mul (x * y * A))).of (by grind))
theorem as_ny {A B C D X Y x y : Int} (ha : Dv (X * B - A)) (hc : Dv (Y * D - C)) (hB : ¬ Dv B) (hD : ¬ Dv D) (h : ¬ Dv (1 + X * x * Y * y)) : ¬ Dv (B * D + A * C * x * y) := fun k =>
  dv_prime2 (dv_prime2 hB hD) h (((k.add (ha.mul (x * y * (Y * D)))).add (hc.mul (x * y * A))).of (by grind))
theorem as_end {s s' M1 M2 N1 N2 : Int} (h1 : Dv (s * M1 - N1)) (h2 : Dv (s' * M2 - N2)) (h : Dv (N1 * M2 - N2 * M1)) (k1 : ¬ Dv M1) (k2 : ¬ Dv M2) : Dv (s - s') :=
  dv_prime (a := M1 * M2) ((((h1.mul M2).sub (h2.mul M1)).add h).of (by grind)) (dv_prime2 k1 k2)

/-- Sums go in any order. -/
theorem ed_assoc {x1 y1 x2 y2 x3 y3 a b c d s t s' t' : Int} (h1 : Ed x1 y1) (h2 : Ed x2 y2) (h3 : Ed x3 y3) (h12 : Sm x1 y1 x2 y2 a b) (hl : Sm a b x3 y3 s t) (h23 : Sm x2 y2 x3 y3 c d) (hr : Sm x1 y1 c d s' t') :
    Dv (s - s') ∧ Dv (t - t') := by
  have e12 := ed_sum h1 h2 h12
  have e23 := ed_sum h2 h3 h23
  have hr := hr.swap
  have X : Dv (((x1 * y2 + y1 * x2) * (1 + x1 * x2 * y1 * y2) * y3 + (y1 * y2 - x1 * x2) * (1 - x1 * x2 * y1 * y2) * x3) * ((1 - x2 * x3 * y2 * y3) * (1 + x2 * x3 * y2 * y3) - (x2 * y3 + y2 * x3) * (y2 * y3 - x2 * x3) * x1 * y1) - ((x2 * y3 + y2 * x3) * (1 + x2 * x3 * y2 * y3) * y1 + (y2 * y3 - x2 * x3) * (1 - x2 * x3 * y2 * y3) * x1) * ((1 - x1 * x2 * y1 * y2) * (1 + x1 * x2 * y1 * y2) - (x1 * y2 + y1 * x2) * (y1 * y2 - x1 * x2) * x3 * y3)) := by
    rw [assocXI]
    exact ((h1.mull _).add (h2.mull _)).add (h3.mull _)
  have Y : Dv (((y1 * y2 - x1 * x2) * (1 - x1 * x2 * y1 * y2) * y3 - (x1 * y2 + y1 * x2) * (1 + x1 * x2 * y1 * y2) * x3) * ((1 - x2 * x3 * y2 * y3) * (1 + x2 * x3 * y2 * y3) + (x2 * y3 + y2 * x3) * (y2 * y3 - x2 * x3) * x1 * y1) - ((y2 * y3 - x2 * x3) * (1 - x2 * x3 * y2 * y3) * y1 - (x2 * y3 + y2 * x3) * (1 + x2 * x3 * y2 * y3) * x1) * ((1 - x1 * x2 * y1 * y2) * (1 + x1 * x2 * y1 * y2) + (x1 * y2 + y1 * x2) * (y1 * y2 - x1 * x2) * x3 * y3)) := by
    rw [assocYI]
    exact ((h1.mull _).add (h2.mull _)).add (h3.mull _)
  have B1 := ed_minus h1 h2
  have D1 := ed_plus h1 h2
  have B2 := ed_minus h2 h3
  have D2 := ed_plus h2 h3
  exact ⟨as_end (as_x h12.1 h12.2 hl.1) (as_x h23.1 h23.2 hr.1) X (as_nx h12.1 h12.2 B1 D1 (ed_minus e12 h3)) (as_nx h23.1 h23.2 B2 D2 (ed_minus e23 h1)),
    as_end (as_y h12.1 h12.2 hl.2) (as_y h23.1 h23.2 hr.2) Y (as_ny h12.1 h12.2 B1 D1 (ed_plus e12 h3)) (as_ny h23.1 h23.2 B2 D2 (ed_plus e23 h1))⟩

end Go.Proofs.YthnahalboomkoaaGreat

/-
  The same, the first part.
-/
namespace Go.Proofs.YthnahalboomkoaaGreat

set_option maxHeartbeats 4000000 in
theorem lineXI (u1 u2 l m : Int) : (-(l * (l ^ 2 - u1 - u2) + m)) * ((u1 ^ 2 + 1) * (u2 ^ 2 + 1) * (u1 - 1) * (u2 - 1) + 2 * (l * u1 + m) * (l * u2 + m) * (u1 + 1) * (u2 + 1)) - ((l ^ 2 - u1 - u2) ^ 2 + 1) * ((l * u1 + m) * (u2 + 1) * (u2 ^ 2 + 1) * (u1 - 1) + (u1 + 1) * (l * u2 + m) * (u1 ^ 2 + 1) * (u2 - 1)) = (-l^5*u1^2*u2 - l^5*u1*u2^2 - 5*l^5*u1*u2 + l^4*m*u1*u2 + l^3*m^2*u1 + l^3*m^2*u2 + 5*l^3*m^2 + 2*l^3*u1^3*u2 + 3*l^3*u1^2*u2^2 + 8*l^3*u1^2*u2 + 2*l^3*u1*u2^3 + 7*l^3*u1*u2^2 - l^3*u1 - l^3*u2 + l^3 - l^2*m^3 - l^2*m*u1^2*u2 + l^2*m*u1^2 - l^2*m*u1 + l^2*m*u2^2 - l^2*m*u2 - l*m^2*u1^2 - 4*l*m^2*u1 - l*m^2*u2^2 - 3*l*m^2*u2 - 2*l*m^2 - l*u1^4*u2 - 2*l*u1^3*u2^2 - 3*l*u1^3*u2 - 2*l*u1^2*u2^3 - 5*l*u1^2*u2^2 - l*u1^2*u2 + 2*l*u1^2 - l*u1*u2^4 - 2*l*u1*u2^3 - l*u1*u2^2 - 2*l*u1 + 2*l*u2^2 - 2*l*u2 - m^3*u1 - 2*m^3*u2 - 2*m^3 - m*u1^3 - 2*m*u1^2*u2^2 - 2*m*u1^2*u2 - m*u1^2 - m*u1*u2^3 - 2*m*u1*u2^2 - m*u1 - m*u2^3 - m*u2^2 - m*u2 - m) * (u1 * u2 + (u1 + u2) * (l ^ 2 - u1 - u2) - 1 + 2 * l * m) + (l^5*u1^2 + 2*l^5*u1*u2 + 5*l^5*u1 + l^5*u2^2 + 5*l^5*u2 + l^4*m*u1 + l^4*m*u2 + 10*l^4*m - 2*l^3*m^2 - 2*l^3*u1^3 - 5*l^3*u1^2*u2 - 7*l^3*u1^2 - 5*l^3*u1*u2^2 - 14*l^3*u1*u2 - 3*l^3*u1 - 2*l^3*u2^3 - 6*l^3*u2^2 - 3*l^3*u2 - 3*l^3 - 2*l^2*m*u1^2 - 2*l^2*m*u1*u2 - 10*l^2*m*u1 - 3*l^2*m*u2^2 - 8*l^2*m*u2 - 3*l^2*m - 2*l*m^2*u1 - 4*l*m^2*u2 - 4*l*m^2 + l*u1^4 + 3*l*u1^3*u2 + 2*l*u1^3 + 4*l*u1^2*u2^2 + 7*l*u1^2*u2 + l*u1^2 + 3*l*u1*u2^3 + 7*l*u1*u2^2 + 2*l*u1*u2 + 2*l*u1 + l*u2^4 + l*u2^3 + l*u2^2 + l*u2 + m*u1^3 + 3*m*u1^2*u2 + 2*m*u1^2 + 3*m*u1*u2^2 + 4*m*u1*u2 + 3*m*u1 + 2*m*u2^3 + 2*m*u2^2 + 4*m*u2 + 4*m) * (u1 * u2 * (l ^ 2 - u1 - u2) - m ^ 2) := by grind

end Go.Proofs.YthnahalboomkoaaGreat
