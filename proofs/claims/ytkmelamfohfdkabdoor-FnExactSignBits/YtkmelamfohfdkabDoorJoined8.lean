/-
  Texts of one's own, joined.
-/
import Derived.ProofKit
import Derived.Test.YtkmelamfohfdkabDoorJoined6
import Derived.Test.YtkmelamfohfdkabDoorWeIdX

/-
  Three points of one line, on the curve y y = x x x + x and on the other: an identity, the second part.
-/
namespace Go.Proofs.YtkmelamfohfdkabDoor

set_option maxHeartbeats 4000000 in
theorem lineYI (u1 u2 l m : Int) : ((l ^ 2 - u1 - u2) + 1) * ((u1 ^ 2 + 1) * (u2 ^ 2 + 1) * (u1 - 1) * (u2 - 1) - 2 * (l * u1 + m) * (l * u2 + m) * (u1 + 1) * (u2 + 1)) - ((l ^ 2 - u1 - u2) - 1) * ((u1 ^ 2 + 1) * (u2 ^ 2 + 1) * (u1 + 1) * (u2 + 1) + 2 * (l * u1 + m) * (l * u2 + m) * (u1 - 1) * (u2 - 1)) = (-4*l^4*u1*u2 + 4*l^2*m^2 + 2*l^2*u1^2*u2 + 2*l^2*u1*u2^2 - 4*l*m*u1*u2 - 4*l*m + 2*m^2*u1 + 2*m^2*u2 + 2*u1^3*u2 + 6*u1^2*u2^2 - 2*u1^2 + 2*u1*u2^3 - 4*u1*u2 - 2*u2^2 - 2) * (u1 * u2 + (u1 + u2) * (l ^ 2 - u1 - u2) - 1 + 2 * l * m) + (4*l^4*u1 + 4*l^4*u2 + 8*l^3*m - 2*l^2*u1^2 - 4*l^2*u1*u2 - 2*l^2*u2^2 - 8*l^2 + 4*l*m*u1 + 4*l*m*u2 - 2*u1^3 - 8*u1^2*u2 - 8*u1*u2^2 - 2*u1 - 2*u2^3 - 2*u2) * (u1 * u2 * (l ^ 2 - u1 - u2) - m ^ 2) := by grind

end Go.Proofs.YtkmelamfohfdkabDoor

/-
  Points of the curve y y = x x x + x modulo 12107, laid on the other curve: a line's three points sum there.
-/
namespace Go.Proofs.YtkmelamfohfdkabDoor

/-- On the curve. -/
def Wc (u v : Int) : Prop := Dv (v ^ 2 - u ^ 3 - u)
/-- The same point on the other curve (6992 is a root of -2). -/
def Phi (u v x y : Int) : Prop := Dv (x * (u ^ 2 + 1) - 6992 * v) ∧ Dv (y * (u - 1) - (u + 1))

theorem dv_s : Dv (6992 * 6992 + 2) := ⟨4038, by decide⟩
theorem dv_s0 : ¬ Dv 6992 := by unfold Dv; omega

/-- 2 has no root. -/
theorem nonres2 (v : Int) : ¬ Dv (v ^ 2 - 2) := by
  intro h
  obtain ⟨n, hn⟩ : ∃ n : Nat, (n : Int) = fp v := ⟨(fp v).toNat, by have := fp_nonneg v; omega⟩
  have hl : n < 12107 := by have := fp_lt v; omega
  have h1 : Dv ((n : Int) * n - 2) := by
    obtain ⟨k, hk⟩ := fp_rep v
    rw [hn, hk]
    refine (h.add (?_ : Dv (12107 * (2 * v * k + 12107 * k * k)))).of (by grind)
    exact ⟨_, rfl⟩
  have h2 : (n * n) % 12107 = 2 := by
    have := dv_eq h1
    unfold fp at this
    omega
  have h0 : 0 < n := by
    rcases Nat.eq_zero_or_pos n with h | h
    · subst h; simp at h2
    · exact h
  have h3 : (n * n) ^ eH % 12107 = 1 := by rw [← Nat.pow_two, ← Nat.pow_mul, e2H]; exact fermat h0 hl
  rw [← pow_mod_mod, h2, ← chi_pow (a := 2) (by decide)] at h3
  have h4 : chi 2 = 12106 := by decide +kernel
  rw [h4] at h3
  cases h3

theorem a_ne (u : Int) : ¬ Dv (u ^ 2 + 1) := fun h => dv_one (sumsq (a := u) (b := 1) (h.of (by grind))).2
theorem b_ne {u v : Int} (h : Wc u v) : ¬ Dv (u - 1) := fun k => nonres2 v ((h.add (k.mul (u ^ 2 + u + 2))).of (by grind))

theorem Phi.to {u v x y u' v' : Int} (h : Phi u v x y) (hu : Dv (u - u')) (hv : Dv (v - v')) : Phi u' v' x y :=
  ⟨((h.1.sub (hu.mul (x * (u + u')))).add (hv.mul 6992)).of (by grind), (h.2.sub (hu.mul (y - 1))).of (by grind)⟩
theorem Wc.to {u v u' v' : Int} (h : Wc u v) (hu : Dv (u - u')) (hv : Dv (v - v')) : Wc u' v' :=
  ((h.sub (hv.mul (v + v'))).add (hu.mul (u ^ 2 + u * u' + u' ^ 2 + 1))).of (by grind)

theorem phi_ex {u v : Int} (h : Wc u v) : ∃ x y, Phi u v x y := by
  obtain ⟨i, hi⟩ := inv_ex (a_ne u)
  obtain ⟨j, hj⟩ := inv_ex (b_ne h)
  exact ⟨6992 * v * i, (u + 1) * j, (hi.mul (6992 * v)).of (by grind), (hj.mul (u + 1)).of (by grind)⟩

theorem phi_ed {u v x y : Int} (h : Wc u v) (k : Phi u v x y) : Ed x y := by
  have ha := a_ne u
  have hb := b_ne h
  obtain ⟨k1, k2⟩ := k
  have g : Dv (6992 * 6992 * v ^ 2 * ((u - 1) ^ 2 + (u + 1) ^ 2) + (u ^ 2 + 1) ^ 2 * ((u + 1) ^ 2 - (u - 1) ^ 2)) :=
    ((dv_s.mul (v ^ 2 * ((u - 1) ^ 2 + (u + 1) ^ 2))).sub (h.mul (4 * (u ^ 2 + 1)))).of (by grind)
  have hm : Dv ((u ^ 2 + 1) * ((u ^ 2 + 1) * ((u - 1) * ((u - 1) * (x ^ 2 + y ^ 2 - 1 + x ^ 2 * y ^ 2))))) := by
    generalize (6992 : Int) = s at k1 g
    generalize u ^ 2 + 1 = A at k1 g
    generalize u - 1 = B at k2 g
    generalize u + 1 = C at k2 g
    exact ((g.add (k1.mul ((x * A + s * v) * (B ^ 2 + (y * B) ^ 2)))).add (k2.mul ((y * B + C) * (A ^ 2 + (s * v) ^ 2)))).of (by grind)
  exact dv_prime (dv_prime (dv_prime (dv_prime hm ha) ha) hb) hb

/-- No such point is the one that changes nothing. -/
theorem phi_ne {u v x y : Int} (k : Phi u v x y) : ¬ Dv (y - 1) := fun h => dv_two ((h.mul (u - 1)).sub k.2 |>.of (by grind))

theorem phi_inj {u v u' v' x y x' y' : Int} (k : Phi u v x y) (k' : Phi u' v' x' y') (hx : Dv (x - x')) (hy : Dv (y - y')) : Dv (u - u') ∧ Dv (v - v') := by
  have hu : Dv (u - u') := dv_prime (a := y - 1) (((k.2.sub k'.2).sub (hy.mul (u' - 1))).of (by grind)) (phi_ne k)
  refine ⟨hu, dv_prime (a := 6992) ((((k'.1.sub k.1).add (hx.mul (u ^ 2 + 1))).add (hu.mul (x' * (u + u')))).of (by grind)) dv_s0⟩

theorem gen_y {a1 a2 b1 b2 b3 c1 c2 c3 v1 v2 x1 x2 y1 y2 y3 s : Int} (hx1 : Dv (x1 * a1 - s * v1)) (hx2 : Dv (x2 * a2 - s * v2)) (hy1 : Dv (y1 * b1 - c1)) (hy2 : Dv (y2 * b2 - c2)) (hy3 : Dv (y3 * b3 - c3)) (hs : Dv (s * s + 2))
    (g : Dv (c3 * (a1 * a2 * b1 * b2 - 2 * v1 * v2 * c1 * c2) - b3 * (a1 * a2 * c1 * c2 + 2 * v1 * v2 * b1 * b2))) :
    Dv (a1 * (a2 * (b1 * (b2 * (b3 * (y3 * (1 + x1 * x2 * y1 * y2) - (y1 * y2 - x1 * x2))))))) :=
  ((((((g.add (hy3.mul (a1 * a2 * b1 * b2 + x1 * a1 * (x2 * a2) * (y1 * b1) * (y2 * b2)))).add (hx1.mul (c3 * (x2 * a2) * (y1 * b1) * (y2 * b2) + b3 * (x2 * a2) * (b1 * b2)))).add
    (hx2.mul (c3 * (s * v1) * (y1 * b1) * (y2 * b2) + b3 * (s * v1) * (b1 * b2)))).add (hy1.mul (c3 * (s * v1) * (s * v2) * (y2 * b2) - b3 * (y2 * b2) * (a1 * a2)))).add
    (hy2.mul (c3 * (s * v1) * (s * v2) * c1 - b3 * c1 * (a1 * a2)))).add (hs.mul (c3 * v1 * v2 * c1 * c2 + b3 * v1 * v2 * (b1 * b2)))).of (by grind)

theorem gen_x {a1 a2 a3 b1 b2 c1 c2 v1 v2 v3 x1 x2 x3 y1 y2 s : Int} (hx1 : Dv (x1 * a1 - s * v1)) (hx2 : Dv (x2 * a2 - s * v2)) (hx3 : Dv (x3 * a3 - s * v3)) (hy1 : Dv (y1 * b1 - c1)) (hy2 : Dv (y2 * b2 - c2)) (hs : Dv (s * s + 2))
    (g : Dv (v3 * (a1 * a2 * b1 * b2 + 2 * v1 * v2 * c1 * c2) - a3 * (v1 * c2 * a2 * b1 + c1 * v2 * a1 * b2))) :
    Dv (a1 * (a2 * (b1 * (b2 * (a3 * (x3 * (1 - x1 * x2 * y1 * y2) - (x1 * y2 + y1 * x2))))))) :=
  (((((((g.mul s).add (hx3.mul (a1 * a2 * b1 * b2 - x1 * a1 * (x2 * a2) * (y1 * b1) * (y2 * b2)))).add (hx1.mul (-(s * v3) * (x2 * a2) * (y1 * b1) * (y2 * b2) - a3 * (y2 * b2) * a2 * b1))).add
    (hx2.mul (-(s * v3) * (s * v1) * (y1 * b1) * (y2 * b2) - a3 * (y1 * b1) * a1 * b2))).add (hy1.mul (-(s * v3) * (s * v1) * (s * v2) * (y2 * b2) - a3 * (s * v2) * a1 * b2))).add
    (hy2.mul (-(s * v3) * (s * v1) * (s * v2) * c1 - a3 * (s * v1) * a2 * b1))).add (hs.mul (-(s * v3) * v1 * v2 * c1 * c2))).of (by grind)

/-- The third point of a line is on the curve. -/
theorem line_on {u1 u2 l m : Int} (h2 : Dv (u1 * u2 + (u1 + u2) * (l ^ 2 - u1 - u2) - 1 + 2 * l * m)) (h3 : Dv (u1 * u2 * (l ^ 2 - u1 - u2) - m ^ 2)) : Wc (l ^ 2 - u1 - u2) (-(l * (l ^ 2 - u1 - u2) + m)) :=
  ((h2.mul (l ^ 2 - u1 - u2)).sub h3).of (by grind)

/-- A line's three points: the third, turned, is the sum of the others. -/
theorem line_sum {u1 u2 l m x1 y1 x2 y2 x3 y3 : Int} (h2 : Dv (u1 * u2 + (u1 + u2) * (l ^ 2 - u1 - u2) - 1 + 2 * l * m)) (h3 : Dv (u1 * u2 * (l ^ 2 - u1 - u2) - m ^ 2))
    (w1 : Wc u1 (l * u1 + m)) (w2 : Wc u2 (l * u2 + m)) (p1 : Phi u1 (l * u1 + m) x1 y1) (p2 : Phi u2 (l * u2 + m) x2 y2) (p3 : Phi (l ^ 2 - u1 - u2) (-(l * (l ^ 2 - u1 - u2) + m)) x3 y3) : Sm x1 y1 x2 y2 x3 y3 := by
  have gy := ((h2.mull _).add (h3.mull _)).of (lineYI u1 u2 l m)
  have gx := ((h2.mull _).add (h3.mull _)).of (lineXI u1 u2 l m)
  have w3 := line_on h2 h3
  have hx := gen_x p1.1 p2.1 p3.1 p1.2 p2.2 dv_s gx
  have hy := gen_y p1.1 p2.1 p1.2 p2.2 p3.2 dv_s gy
  exact ⟨dv_prime (dv_prime (dv_prime (dv_prime (dv_prime hx (a_ne _)) (a_ne _)) (b_ne w1)) (b_ne w2)) (a_ne _), dv_prime (dv_prime (dv_prime (dv_prime (dv_prime hy (a_ne _)) (a_ne _)) (b_ne w1)) (b_ne w2)) (b_ne w3)⟩

/-- A chord. -/
theorem chord {u1 v1 u2 v2 l : Int} (w1 : Wc u1 v1) (w2 : Wc u2 v2) (hw : ¬ Dv (u2 - u1)) (hl : Dv (l * (u2 - u1) - (v2 - v1))) :
    Dv (u1 * u2 + (u1 + u2) * (l ^ 2 - u1 - u2) - 1 + 2 * l * (v1 - l * u1)) ∧ Dv (u1 * u2 * (l ^ 2 - u1 - u2) - (v1 - l * u1) ^ 2) := by
  have w2' : Wc u2 (l * u2 + (v1 - l * u1)) := w2.to (dv_zero.of (by grind)) (hl.neg.of (by grind))
  have h2 : Dv (u1 * u2 + (u1 + u2) * (l ^ 2 - u1 - u2) - 1 + 2 * l * (v1 - l * u1)) := dv_prime (a := u2 - u1) ((w2'.sub w1).of (by grind)) hw
  exact ⟨h2, ((h2.mul u1).sub w1).of (by grind)⟩

/-- A tangent. -/
theorem tangent {u v l : Int} (w : Wc u v) (hl : Dv (l * (2 * v) - (3 * u ^ 2 + 1))) :
    Dv (u * u + (u + u) * (l ^ 2 - u - u) - 1 + 2 * l * (v - l * u)) ∧ Dv (u * u * (l ^ 2 - u - u) - (v - l * u) ^ 2) := by
  have h2 : Dv (u * u + (u + u) * (l ^ 2 - u - u) - 1 + 2 * l * (v - l * u)) := hl.of (by grind)
  exact ⟨h2, ((h2.mul u).sub w).of (by grind)⟩

end Go.Proofs.YtkmelamfohfdkabDoor
