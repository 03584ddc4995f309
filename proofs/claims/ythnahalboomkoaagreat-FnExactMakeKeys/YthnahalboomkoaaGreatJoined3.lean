/-
  Texts of one's own, joined.
-/
import Derived.ProofKit
import Derived.Test.YthnahalboomkoaaGreatJoined2

/-
  Three points of one line, on the curve y y = x x x + x and on the other: an identity, the second part.
-/
namespace Go.Proofs.YthnahalboomkoaaGreat

set_option maxHeartbeats 4000000 in
theorem lineYI (u1 u2 l m : Int) : ((l ^ 2 - u1 - u2) + 1) * ((u1 ^ 2 + 1) * (u2 ^ 2 + 1) * (u1 - 1) * (u2 - 1) - 2 * (l * u1 + m) * (l * u2 + m) * (u1 + 1) * (u2 + 1)) - ((l ^ 2 - u1 - u2) - 1) * ((u1 ^ 2 + 1) * (u2 ^ 2 + 1) * (u1 + 1) * (u2 + 1) + 2 * (l * u1 + m) * (l * u2 + m) * (u1 - 1) * (u2 - 1)) = (-4*l^4*u1*u2 + 4*l^2*m^2 + 2*l^2*u1^2*u2 + 2*l^2*u1*u2^2 - 4*l*m*u1*u2 - 4*l*m + 2*m^2*u1 + 2*m^2*u2 + 2*u1^3*u2 + 6*u1^2*u2^2 - 2*u1^2 + 2*u1*u2^3 - 4*u1*u2 - 2*u2^2 - 2) * (u1 * u2 + (u1 + u2) * (l ^ 2 - u1 - u2) - 1 + 2 * l * m) + (4*l^4*u1 + 4*l^4*u2 + 8*l^3*m - 2*l^2*u1^2 - 4*l^2*u1*u2 - 2*l^2*u2^2 - 8*l^2 + 4*l*m*u1 + 4*l*m*u2 - 2*u1^3 - 8*u1^2*u2 - 8*u1*u2^2 - 2*u1 - 2*u2^3 - 2*u2) * (u1 * u2 * (l ^ 2 - u1 - u2) - m ^ 2) := by grind

end Go.Proofs.YthnahalboomkoaaGreat

/-
  Points of the curve y y = x x x + x modulo 12107, laid on the other curve: a line's three points sum there.
-/
namespace Go.Proofs.YthnahalboomkoaaGreat

/-- On the curve. -/
def Wc (u v : Int) : Prop := Dv (v ^ 2 - u ^ 3 - u)
/-- The same point on the other curve (6992 is a root of -2). -/
def Phi (u v x y : Int) : Prop := Dv (x * (u ^ 2 + 1) - 6992 * v) ∧ Dv (y * (u - 1) - (u + 1))

theorem dv_s : Dv (6992 * 6992 + 2) := ⟨4038, by decide⟩
theorem dv_s0 : ¬ Dv 6992 := by unfold Dv; omega

/-- 2 has no root. -/
theorem nonres2 (v : Int) : ¬ Dv (v ^ 2 - 2) := by
  intro h
  obtain ⟨n, hn⟩ : ∃ n : Nat, (n : Int) = fp v := ⟨(fp v).toNat, by have := fp_nonneg v; omega⟩
  have hl : n < 12107 := by have := fp_lt v; omega
  have h1 : Dv ((n : Int) * n - 2) := by
    obtain ⟨k, hk⟩ := fp_rep v
    rw [hn, hk]
    refine (h.add (?_ : Dv (12107 * (2 * v * k + 12107 * k * k)))).of (by grind)
    exact ⟨_, rfl⟩
  have h2 : (n * n) % 12107 = 2 := by
    have := dv_eq h1
    unfold fp at this
    omega
  have h0 : 0 < n := by
    rcases Nat.eq_zero_or_pos n with h | h
    · subst h; simp at h2
    · exact h
  have h3 : (n * n) ^ eH % 12107 = 1 := by rw [← Nat.pow_two, ← Nat.pow_mul, e2H]; exact fermat h0 hl
  rw [← pow_mod_mod, h2, ← chi_pow (a := 2) (by decide)] at h3
  have h4 : chi 2 = 12106 := by decide +kernel
  rw [h4] at h3
  cases h3

theorem a_ne (u : Int) : ¬ Dv (u ^ 2 + 1) := fun h => dv_one (sumsq (a := u) (b := 1) (h.of (by grind))).2
theorem b_ne {u v : Int} (h : Wc u v) : ¬ Dv (u - 1) := fun k => nonres2 v ((h.add (k.mul (u ^ 2 + u + 2))).of (by grind))

theorem Phi.to {u v x y u' v' : Int} (h : Phi u v x y) (hu : Dv (u - u')) (hv : Dv (v - v')) : Phi u' v' x y :=
  ⟨((h.1.sub (hu.mul (x * (u + u')))).add (hv.mul 6992)).of (by grind), (h.2.sub (hu.mul (y - 1))).of (by grind)⟩
theorem Wc.to {u v u' v' : Int} (h : Wc u v) (hu : Dv (u - u')) (hv : Dv (v - v')) : Wc u' v' :=
  ((h.sub (hv.mul (v + v'))).add (hu.mul (u ^ 2 + u * u' + u' ^ 2 + 1))).of (by grind)

theorem phi_ex {u v : Int} (h : Wc u v) : ∃ x y, Phi u v x y := by
  obtain ⟨i, hi⟩ := inv_ex (a_ne u)
  obtain ⟨j, hj⟩ := inv_ex (b_ne h)
  exact ⟨6992 * v * i, (u + 1) * j, (hi.mul (6992 * v)).of (by grind), (hj.mul (u + 1)).of (by grind)⟩

theorem phi_ed {u v x y : Int} (h : Wc u v) (k : Phi u v x y) : Ed x y := by
  have ha := a_ne u
  have hb := b_ne h
  obtain ⟨k1, k2⟩ := k
  have g : Dv (6992 * 6992 * v ^ 2 * ((u - 1) ^ 2 + (u + 1) ^ 2) + (u ^ 2 + 1) ^ 2 * ((u + 1) ^ 2 - (u - 1) ^ 2)) :=
    ((dv_s.mul (v ^ 2 * ((u - 1) ^ 2 + (u + 1) ^ 2))).sub (h.mul (4 * (u ^ 2 + 1)))).of (by grind)
  have hm : Dv ((u ^ 2 + 1) * ((u ^ 2 + 1) * ((u - 1) * ((u - 1) * (x ^ 2 + y ^ 2 - 1 + x ^ 2 * y ^ 2))))) := by
    generalize (6992 : Int) = s at k1 g
    generalize u ^ 2 + 1 = A at k1 g
    generalize u - 1 = B at k2 g
    generalize u + 1 = C at k2 g
    exact ((g.add (k1.mul ((x * A + s * v) * (B ^ 2 + (y * B) ^ 2)))).add (k2.mul ((y * B + C) * (A ^ 2 + (s * v) ^ 2)))).of (by grind)
  exact dv_prime (dv_prime (dv_prime (dv_prime hm ha) ha) hb) hb

/-- No such point is the one that changes nothing. -/
theorem phi_ne {u v x y : Int} (k : Phi u v x y) : ¬ Dv (y - 1) := fun h => dv_two ((h.mul (u - 1)).sub k.2 |>.of (by grind))

theorem phi_inj {u v u' v' x y x' y' : Int} (k : Phi u v x y) (k' : Phi u' v' x' y') (hx : Dv (x - x')) (hy : Dv (y - y')) : Dv (u - u') ∧ Dv (v - v') := by
  have hu : Dv (u - u') := dv_prime (a := y - 1) (((k.2.sub k'.2).sub (hy.mul (u' - 1))).of (by grind)) (phi_ne k)
  refine ⟨hu, dv_prime (a := 6992) ((((k'.1.sub k.1).add (hx.mul (u ^ 2 + 1))).add (hu.mul (x' * (u + u')))).of (by grind)) dv_s0⟩

theorem gen_y {a1 a2 b1 b2 b3 c1 c2 c3 v1 v2 x1 x2 y1 y2 y3 s : Int} (hx1 : Dv (x1 * a1 - s * v1)) (hx2 : Dv (x2 * a2 - s * v2)) (hy1 : Dv (y1 * b1 - c1)) (hy2 : Dv (y2 * b2 - c2)) (hy3 : Dv (y3 * b3 - c3)) (hs : Dv (s * s + 2))
    (g : Dv (c3 * (a1 * a2 * b1 * b2 - 2 * v1 * v2 * c1 * c2) - b3 * (a1 * a2 * c1 * c2 + 2 * v1 * v2 * b1 * b2))) :
    Dv (a1 * (a2 * (b1 * (b2 * (b3 * (y3 * (1 + x1 * x2 * y1 * y2) - (y1 * y2 - x1 * x2))))))) :=
  ((((((g.add (hy3.mul (a1 * a2 * b1 * b2 + x1 * a1 * (x2 * a2) * (y1 * b1) * (y2 * b2)))).add (hx1.mul (c3 * (x2 * a2) * (y1 * b1) * (y2 * b2) + b3 * (x2 * a2) * (b1 * b2)))).add
    (hx2.mul (c3 * (s * v1) * (y1 * b1) * (y2 * b2) + b3 * (s * v1) * (b1 * b2)))).add (hy1.mul (c3 * (s * v1) * (s * v2) * (y2 * b2) - b3 * (y2 * b2) * (a1 * a2)))).add
    (hy2.mul (c3 * (s * v1) * (s * v2) * c1 - b3 * c1 * (a1 * a2)))).add (hs.mul (c3 * v1 * v2 * c1 * c2 + b3 * v1 * v2 * (b1 * b2)))).of (by grind)

theorem gen_x {a1 a2 a3 b1 b2 c1 c2 v1 v2 v3 x1 x2 x3 y1 y2 s : Int} (hx1 : Dv (x1 * a1 - s * v1)) (hx2 : Dv (x2 * a2 - s * v2)) (hx3 : Dv (x3 * a3 - s * v3)) (hy1 : Dv (y1 * b1 - c1)) (hy2 : Dv (y2 * b2 - c2)) (hs : Dv (s * s + 2))
    (g : Dv (v3 * (a1 * a2 * b1 * b2 + 2 * v1 * v2 * c1 * c2) - a3 * (v1 * c2 * a2 * b1 + c1 * v2 * a1 * b2))) :
    Dv (a1 * (a2 * (b1 * (b2 * (a3 * (x3 * (1 - x1 * x2 * y1 * y2) - (x1 * y2 + y1 * x2))))))) :=
  (((((((g.mul s).add (hx3.mul (a1 * a2 * b1 * b2 - x1 * a1 * (x2 * a2) * (y1 * b1) * (y2 * b2)))).add (hx1.mul (-(s * v3) * (x2 * a2) * (y1 * b1) * (y2 * b2) - a3 * (y2 * b2) * a2 * b1))).add
    (hx2.mul (-(s * v3) * (s * v1) * (y1 * b1) * (y2 * b2) - a3 * (y1 * b1) * a1 * b2))).add (hy1.mul (-(s * v3) * (s * v1) * (s * v2) * (y2 * b2) - a3 * (s * v2) * a1 * b2))).add
    (hy2.mul (-(s * v3) * (s * v1) * (s * v2) * c1 - a3 * (s * v1) * a2 * b1))).add (hs.mul (-(s * v3) * v1 * v2 * c1 * c2))).of (by grind)

/-- The third point of a line is on the curve. -/
theorem line_on {u1 u2 l m : Int} (h2 : Dv (u1 * u2 + (u1 + u2) * (l ^ 2 - u1 - u2) - 1 + 2 * l * m)) (h3 : Dv (u1 * u2 * (l ^ 2 - u1 - u2) - m ^ 2)) : Wc (l ^ 2 - u1 - u2) (-(l * (l ^ 2 - u1 - u2) + m)) :=
  ((h2.mul (l ^ 2 - u1 - u2)).sub h3).of (by grind)

/-- A line's three points: the third, turned, is the sum of the others. -/
theorem line_sum {u1 u2 l m x1 y1 x2 y2 x3 y3 : Int} (h2 : Dv (u1 * u2 + (u1 + u2) * (l ^ 2 - u1 - u2) - 1 + 2 * l * m)) (h3 : Dv (u1 * u2 * (l ^ 2 - u1 - u2) - m ^ 2))
    (w1 : Wc u1 (l * u1 + m)) (w2 : Wc u2 (l * u2 + m)) (p1 : Phi u1 (l * u1 + m) x1 y1) (p2 : Phi u2 (l * u2 + m) x2 y2) (p3 : Phi (l ^ 2 - u1 - u2) (-(l * (l ^ 2 - u1 - u2) + m)) x3 y3) : Sm x1 y1 x2 y2 x3 y3 := by
  have gy := ((h2.mull _).add (h3.mull _)).of (lineYI u1 u2 l m)
  have gx := ((h2.mull _).add (h3.mull _)).of (lineXI u1 u2 l m)
  have w3 := line_on h2 h3
  have hx := gen_x p1.1 p2.1 p3.1 p1.2 p2.2 dv_s gx
  have hy := gen_y p1.1 p2.1 p1.2 p2.2 p3.2 dv_s gy
  exact ⟨dv_prime (dv_prime (dv_prime (dv_prime (dv_prime hx (a_ne _)) (a_ne _)) (b_ne w1)) (b_ne w2)) (a_ne _), dv_prime (dv_prime (dv_prime (dv_prime (dv_prime hy (a_ne _)) (a_ne _)) (b_ne w1)) (b_ne w2)) (b_ne w3)⟩

/-- A chord. -/
theorem chord {u1 v1 u2 v2 l : Int} (w1 : Wc u1 v1) (w2 : Wc u2 v2) (hw : ¬ Dv (u2 - u1)) (hl : Dv (l * (u2 - u1) - (v2 - v1))) :
    Dv (u1 * u2 + (u1 + u2) * (l ^ 2 - u1 - u2) - 1 + 2 * l * (v1 - l * u1)) ∧ Dv (u1 * u2 * (l ^ 2 - u1 - u2) - (v1 - l * u1) ^ 2) := by
  have w2' : Wc u2 (l * u2 + (v1 - l * u1)) := w2.to (dv_zero.of (by grind)) (hl.neg.of (by grind))
  have h2 : Dv (u1 * u2 + (u1 + u2) * (l ^ 2 - u1 - u2) - 1 + 2 * l * (v1 - l * u1)) := dv_prime (a := u2 - u1) ((w2'.sub w1).of (by grind)) hw
  exact ⟨h2, ((h2.mul u1).sub w1).of (by grind)⟩

/-- A tangent. -/
theorem tangent {u v l : Int} (w : Wc u v) (hl : Dv (l * (2 * v) - (3 * u ^ 2 + 1))) :
    Dv (u * u + (u + u) * (l ^ 2 - u - u) - 1 + 2 * l * (v - l * u)) ∧ Dv (u * u * (l ^ 2 - u - u) - (v - l * u) ^ 2) := by
  have h2 : Dv (u * u + (u + u) * (l ^ 2 - u - u) - 1 + 2 * l * (v - l * u)) := hl.of (by grind)
  exact ⟨h2, ((h2.mul u).sub w).of (by grind)⟩

end Go.Proofs.YthnahalboomkoaaGreat

/-
  The points of the specification make a group.
-/
namespace Go.Proofs.YthnahalboomkoaaGreat

/-- A point: X, Y, Zero. -/
abbrev Pt := Int × Int × Bool
def pZ : Pt := (0, 0, true)
def slopeC (u1 v1 u2 v2 : Int) : Int := fpMul (fpSub v2 v1) (fpPow (fpSub u2 u1) 12105)
def slopeT (u v : Int) : Int := fpMul (fpAdd (fpMul 3 (fpMul u u)) 1) (fpPow (fpMul 2 v) 12105)
def thirdX (u1 u2 l : Int) : Int := fpSub (fpSub (fpMul l l) u1) u2
def thirdY (u1 v1 l x : Int) : Int := fpSub (fpMul l (fpSub u1 x)) v1
def pThird (u1 v1 u2 l : Int) : Pt := (thirdX u1 u2 l, thirdY u1 v1 l (thirdX u1 u2 l), false)
/-- The sum of right points. -/
def pAdd (P Q : Pt) : Pt :=
  if P.2.2 = true then Q else if Q.2.2 = true then P
  else if P.1 ≠ Q.1 then pThird P.1 P.2.1 Q.1 (slopeC P.1 P.2.1 Q.1 Q.2.1)
  else if fpAdd P.2.1 Q.2.1 = 0 then pZ
  else pThird P.1 P.2.1 Q.1 (slopeT P.1 P.2.1)
def pNeg (P : Pt) : Pt := if P.2.2 = true then pZ else (P.1, fpSub 0 P.2.1, false)

/-- A right point. -/
def POk (P : Pt) : Prop := P = pZ ∨ (P.2.2 = false ∧ (0 ≤ P.1 ∧ P.1 < 12107) ∧ (0 ≤ P.2.1 ∧ P.2.1 < 12107) ∧ Wc P.1 P.2.1)

/-- Its place on the other curve. -/
def EP (P : Pt) (x y : Int) : Prop := (P.2.2 = true ∧ Dv x ∧ Dv (y - 1)) ∨ (P.2.2 = false ∧ Phi P.1 P.2.1 x y)

theorem dv_mul (a b : Int) : Dv (fpMul a b - a * b) := by rw [fpMul_eq]; exact dv_fp_sub _
theorem dv_sub (a b : Int) : Dv (fpSub a b - (a - b)) := by rw [fpSub_eq]; exact dv_fp_sub _
theorem dv_add (a b : Int) : Dv (fpAdd a b - (a + b)) := by rw [fpAdd_eq]; exact dv_fp_sub _
theorem dv_inv {a : Int} (h : ¬ Dv a) : Dv (a * fpPow a 12105 - 1) := by
  have h0 : 0 < fp a := by
    have := fp_nonneg a
    have : fp a ≠ 0 := fun e => h (dv_fp.2 e)
    omega
  have hm := fpMul_inv h0 (fp_lt a)
  rw [fpPow_fp0, fpMul_fp_left, fpMul_eq] at hm
  exact dv_of_eq (by rw [hm]; rfl)
theorem small_eq {a b : Int} (a0 : 0 ≤ a) (a1 : a < 12107) (b0 : 0 ≤ b) (b1 : b < 12107) (h : Dv (a - b)) : a = b := by
  have := dv_eq h
  rw [fp_small a0 a1, fp_small b0 b1] at this
  exact this

theorem dv_slopeC {u1 v1 u2 v2 : Int} (h : ¬ Dv (u2 - u1)) : Dv (slopeC u1 v1 u2 v2 * (u2 - u1) - (v2 - v1)) := by
  have hs := dv_sub u2 u1
  have hv := dv_sub v2 v1
  have hn : ¬ Dv (fpSub u2 u1) := fun k => h ((k.sub hs).of (by grind))
  have hi := dv_inv hn
  have hm := dv_mul (fpSub v2 v1) (fpPow (fpSub u2 u1) 12105)
  unfold slopeC
  generalize fpPow (fpSub u2 u1) 12105 = i at hi hm ⊢
  generalize fpMul (fpSub v2 v1) i = l at hm ⊢
  generalize fpSub u2 u1 = w at hs hi
  generalize fpSub v2 v1 = d at hv hm
  exact (((hm.mul (u2 - u1)).sub (hs.mul (d * i))).add ((hi.mul d).add hv)).of (by grind)

theorem dv_slopeT {u v : Int} (h : ¬ Dv (2 * v)) : Dv (slopeT u v * (2 * v) - (3 * u ^ 2 + 1)) := by
  have hs := dv_mul 2 v
  have h1 := dv_mul u u
  have h2 := dv_mul 3 (fpMul u u)
  have h3 := dv_add (fpMul 3 (fpMul u u)) 1
  have hn : ¬ Dv (fpMul 2 v) := fun k => h ((k.sub hs).of (by grind))
  have hi := dv_inv hn
  have hm := dv_mul (fpAdd (fpMul 3 (fpMul u u)) 1) (fpPow (fpMul 2 v) 12105)
  unfold slopeT
  generalize fpPow (fpMul 2 v) 12105 = i at hi hm ⊢
  generalize fpMul 2 v = w at hs hi
  generalize fpAdd (fpMul 3 (fpMul u u)) 1 = d at h3 hm ⊢
  generalize fpMul 3 (fpMul u u) = e at h2 h3
  generalize fpMul u u = f at h1 h2
  generalize fpMul d i = l at hm ⊢
  exact ((((hm.mul (2 * v)).sub (hs.mul (d * i))).add (hi.mul d)).add ((h3.add h2).add (h1.mul 3))).of (by grind)

theorem dv_third {u1 v1 u2 l : Int} : Dv (thirdX u1 u2 l - (l ^ 2 - u1 - u2)) ∧ Dv (thirdY u1 v1 l (thirdX u1 u2 l) - (-(l * (l ^ 2 - u1 - u2) + (v1 - l * u1)))) := by
  have h1 := dv_mul l l
  have h2 := dv_sub (fpMul l l) u1
  have h3 := dv_sub (fpSub (fpMul l l) u1) u2
  have hX : Dv (thirdX u1 u2 l - (l ^ 2 - u1 - u2)) := by
    unfold thirdX
    generalize fpSub (fpSub (fpMul l l) u1) u2 = x at h3 ⊢
    generalize fpSub (fpMul l l) u1 = y at h2 h3
    exact ((h3.add h2).add h1).of (by grind)
  refine ⟨hX, ?_⟩
  generalize thirdX u1 u2 l = x at hX ⊢
  have k1 := dv_sub u1 x
  have k2 := dv_mul l (fpSub u1 x)
  have k3 := dv_sub (fpMul l (fpSub u1 x)) v1
  unfold thirdY
  generalize fpSub (fpMul l (fpSub u1 x)) v1 = y at k3 ⊢
  generalize fpMul l (fpSub u1 x) = z at k2 k3
  generalize fpSub u1 x = d at k1 k2
  exact (((k3.add k2).add (k1.mul l)).sub (hX.mul l)).of (by grind)

theorem third_in (u1 v1 u2 l : Int) : (0 ≤ (pThird u1 v1 u2 l).1 ∧ (pThird u1 v1 u2 l).1 < 12107) ∧ (0 ≤ (pThird u1 v1 u2 l).2.1 ∧ (pThird u1 v1 u2 l).2.1 < 12107) :=
  ⟨⟨fp_nonneg _, fp_lt _⟩, fp_nonneg _, fp_lt _⟩

/-- What the third point of a line is. -/
theorem third_line {u1 v1 u2 v2 l : Int} (w1 : Wc u1 v1) (w2 : Wc u2 v2) (hv : Dv (v2 - (l * u2 + (v1 - l * u1))))
    (h : Dv (u1 * u2 + (u1 + u2) * (l ^ 2 - u1 - u2) - 1 + 2 * l * (v1 - l * u1)) ∧ Dv (u1 * u2 * (l ^ 2 - u1 - u2) - (v1 - l * u1) ^ 2)) :
    POk (pThird u1 v1 u2 l) ∧ ∀ x1 y1 x2 y2 x3 y3, Phi u1 v1 x1 y1 → Phi u2 v2 x2 y2 → EP (pThird u1 v1 u2 l) x3 y3 → Sm x1 y1 x2 y2 x3 y3 := by
  have ht := dv_third (u1 := u1) (v1 := v1) (u2 := u2) (l := l)
  have hon := line_on h.1 h.2
  have e1 : Dv (v1 - (l * u1 + (v1 - l * u1))) := dv_zero.of (by grind)
  have z1 : Dv (u1 - u1) := dv_zero.of (by grind)
  have z2 : Dv (u2 - u2) := dv_zero.of (by grind)
  have k1 : Dv ((l ^ 2 - u1 - u2) - thirdX u1 u2 l) := ht.1.neg.of (by grind)
  have k2 : Dv (-(l * (l ^ 2 - u1 - u2) + (v1 - l * u1)) - thirdY u1 v1 l (thirdX u1 u2 l)) := ht.2.neg.of (by grind)
  refine ⟨.inr ⟨rfl, (third_in u1 v1 u2 l).1, (third_in u1 v1 u2 l).2, hon.to k1 k2⟩, ?_⟩
  intro x1 y1 x2 y2 x3 y3 p1 p2 p3
  rcases p3 with ⟨h0, _⟩ | ⟨_, p3⟩
  · cases h0
  · exact line_sum h.1 h.2 (w1.to z1 e1) (w2.to z2 hv) (p1.to z1 e1) (p2.to z2 hv) (p3.to ht.1 ht.2)

theorem phi_fun {u v x y x' y' : Int} (h : Wc u v) (k : Phi u v x y) (k' : Phi u v x' y') : Dv (x - x') ∧ Dv (y - y') :=
  ⟨dv_prime (a := u ^ 2 + 1) ((k.1.sub k'.1).of (by grind)) (a_ne u), dv_prime (a := u - 1) ((k.2.sub k'.2).of (by grind)) (b_ne h)⟩

theorem ep_fun {P : Pt} {x y x' y' : Int} (h : POk P) (k : EP P x y) (k' : EP P x' y') : Dv (x - x') ∧ Dv (y - y') := by
  rcases k with ⟨h0, a, b⟩ | ⟨h0, k⟩
  · rcases k' with ⟨_, c, d⟩ | ⟨h1, _⟩
    · exact ⟨a.sub c, (b.sub d).of (by grind)⟩
    · rw [h0] at h1; cases h1
  · rcases k' with ⟨h1, _⟩ | ⟨_, k'⟩
    · rw [h0] at h1; cases h1
    · rcases h with rfl | ⟨_, _, _, w⟩
      · cases h0
      · exact phi_fun w k k'

theorem ep_ex {P : Pt} (h : POk P) : ∃ x y, EP P x y := by
  rcases h with rfl | ⟨h0, _, _, w⟩
  · exact ⟨0, 1, .inl ⟨rfl, dv_zero, dv_zero⟩⟩
  · obtain ⟨x, y, k⟩ := phi_ex w
    exact ⟨x, y, .inr ⟨h0, k⟩⟩
theorem ep_ed {P : Pt} {x y : Int} (h : POk P) (k : EP P x y) : Ed x y := by
  rcases k with ⟨_, a, b⟩ | ⟨h0, k⟩
  · exact ((a.mul (x + x * y ^ 2)).add (b.mul (y + 1))).of (by grind)
  · rcases h with rfl | ⟨_, _, _, w⟩
    · cases h0
    · exact phi_ed w k
theorem ep_inj {P Q : Pt} {x y x' y' : Int} (hP : POk P) (hQ : POk Q) (k : EP P x y) (k' : EP Q x' y') (hx : Dv (x - x')) (hy : Dv (y - y')) : P = Q := by
  rcases hP with rfl | ⟨p0, pa, pb, pw⟩
  · rcases hQ with rfl | ⟨q0, qa, qb, qw⟩
    · rfl
    · rcases k with ⟨_, _, b⟩ | ⟨h0, _⟩
      · rcases k' with ⟨h1, _⟩ | ⟨_, k'⟩
        · rw [q0] at h1; cases h1
        · exact absurd ((b.sub hy).of (by grind)) (phi_ne k')
      · cases h0
  · rcases k with ⟨h0, _⟩ | ⟨_, k⟩
    · rw [p0] at h0; cases h0
    rcases hQ with rfl | ⟨q0, qa, qb, qw⟩
    · rcases k' with ⟨_, _, d⟩ | ⟨h1, _⟩
      · exact absurd ((hy.add d).of (by grind)) (phi_ne k)
      · cases h1
    · rcases k' with ⟨h1, _⟩ | ⟨_, k'⟩
      · rw [q0] at h1; cases h1
      · obtain ⟨hu, hv⟩ := phi_inj k k' hx hy
        obtain ⟨a, b, c⟩ := P
        obtain ⟨d, e, f⟩ := Q
        simp only at p0 pa pb q0 qa qb hu hv
        rw [p0, q0, small_eq pa.1 pa.2 qa.1 qa.2 hu, small_eq pb.1 pb.2 qb.1 qb.2 hv]

theorem sm_zero {x1 y1 x2 y2 x3 y3 : Int} (a : Dv x1) (b : Dv (y1 - 1)) (c : Dv (x3 - x2)) (d : Dv (y3 - y2)) : Sm x1 y1 x2 y2 x3 y3 :=
  ⟨((c.sub (a.mul (x3 * x2 * y1 * y2 + y2))).sub (b.mul x2)).of (by grind), ((d.sub (b.mul y2)).add (a.mul (x2 + y3 * x2 * y1 * y2))).of (by grind)⟩

/-- The sum of right points is right, and it is the sum on the other curve. -/
theorem padd_all {P Q : Pt} (hP : POk P) (hQ : POk Q) : POk (pAdd P Q) ∧ ∀ x1 y1 x2 y2 x3 y3, EP P x1 y1 → EP Q x2 y2 → EP (pAdd P Q) x3 y3 → Sm x1 y1 x2 y2 x3 y3 := by
  rcases hP with rfl | ⟨p0, pa, pb, pw⟩
  · have e : pAdd pZ Q = Q := rfl
    rw [e]
    refine ⟨hQ, fun x1 y1 x2 y2 x3 y3 k1 k2 k3 => ?_⟩
    rcases k1 with ⟨_, a, b⟩ | ⟨h0, _⟩
    · have := ep_fun hQ k3 k2
      exact sm_zero a b this.1 this.2
    · cases h0
  · rcases hQ with rfl | ⟨q0, qa, qb, qw⟩
    · have e : pAdd P pZ = P := by unfold pAdd; rw [if_neg (by rw [p0]; exact Bool.false_ne_true), if_pos (show pZ.2.2 = true from rfl)]
      rw [e]
      refine ⟨.inr ⟨p0, pa, pb, pw⟩, fun x1 y1 x2 y2 x3 y3 k1 k2 k3 => ?_⟩
      rcases k2 with ⟨_, a, b⟩ | ⟨h0, _⟩
      · have := ep_fun (.inr ⟨p0, pa, pb, pw⟩) k3 k1
        exact (sm_zero a b this.1 this.2).swap
      · cases h0
    · obtain ⟨u1, v1, z1⟩ := P
      obtain ⟨u2, v2, z2⟩ := Q
      simp only at p0 pa pb pw q0 qa qb qw
      subst p0 q0
      have phi1 : ∀ {u v x y : Int}, EP (u, v, false) x y → Phi u v x y := fun h => by
        rcases h with ⟨h0, _⟩ | ⟨_, h⟩
        · cases h0
        · exact h
      by_cases hu : u1 = u2
      · subst hu
        by_cases hs : fpAdd v1 v2 = 0
        · have e : pAdd (u1, v1, false) (u1, v2, false) = pZ := by
            unfold pAdd
            rw [if_neg Bool.false_ne_true, if_neg Bool.false_ne_true, if_neg (fun h => h rfl), if_pos hs]
          rw [e]
          have hv : Dv (v1 + v2) := by
            have := dv_add v1 v2
            rw [hs] at this
            exact this.neg.of (by grind)
          refine ⟨.inl rfl, fun x1 y1 x2 y2 x3 y3 k1 k2 k3 => ?_⟩
          have k1' := phi1 k1
          have k2' := phi1 k2
          have hx : Dv (x1 + x2) := dv_prime (a := u1 ^ 2 + 1) (((k1'.1.add k2'.1).add (hv.mul 6992)).of (by grind)) (a_ne u1)
          have hy : Dv (y1 - y2) := dv_prime (a := u1 - 1) ((k1'.2.sub k2'.2).of (by grind)) (b_ne pw)
          have hE : Ed x1 y1 := phi_ed pw k1'
          rcases k3 with ⟨_, a, b⟩ | ⟨h0, _⟩
          · refine ⟨((a.mul (1 - x1 * x2 * y1 * y2)).sub ((hx.mul y2).add (hy.mul x2))).of (by grind), ?_⟩
            exact ((((b.mul (1 + x1 * x2 * y1 * y2)).sub hE).add (hx.mul (x1 * y1 * y2 + x1))).add (hy.mul (y1 + x1 ^ 2 * y1))).of (by grind)
          · cases h0
        · have e : pAdd (u1, v1, false) (u1, v2, false) = pThird u1 v1 u1 (slopeT u1 v1) := by
            unfold pAdd
            rw [if_neg Bool.false_ne_true, if_neg Bool.false_ne_true, if_neg (fun h => h rfl), if_neg hs]
          rw [e]
          have hv : ¬ Dv (v1 + v2) := fun k => hs (by
            have := dv_eq ((dv_add v1 v2).add k |>.of (by grind : fpAdd v1 v2 - 0 = _))
            rw [show fp (0 : Int) = 0 from rfl] at this
            unfold fpAdd at this ⊢
            rw [fp_fp] at this
            exact this)
          have hvv : Dv (v1 - v2) := dv_prime (a := v1 + v2) ((pw.sub qw).of (by grind)) hv
          have ev : v1 = v2 := small_eq pb.1 pb.2 qb.1 qb.2 hvv
          subst ev
          have h2 : ¬ Dv (2 * v1) := fun k => hv (k.of (by grind))
          have hl := dv_slopeT (u := u1) h2
          have := third_line pw qw (dv_zero.of (by grind)) (tangent pw hl)
          exact ⟨this.1, fun x1 y1 x2 y2 x3 y3 k1 k2 k3 => this.2 _ _ _ _ _ _ (phi1 k1) (phi1 k2) k3⟩
      · have e : pAdd (u1, v1, false) (u2, v2, false) = pThird u1 v1 u2 (slopeC u1 v1 u2 v2) := by
          unfold pAdd
          rw [if_neg Bool.false_ne_true, if_neg Bool.false_ne_true, if_pos hu]
        rw [e]
        have hw : ¬ Dv (u2 - u1) := fun k => hu (small_eq pa.1 pa.2 qa.1 qa.2 (k.neg.of (by grind)))
        have hl := dv_slopeC (v1 := v1) (v2 := v2) hw
        have := third_line pw qw (hl.neg.of (by grind)) (chord pw qw hw hl)
        exact ⟨this.1, fun x1 y1 x2 y2 x3 y3 k1 k2 k3 => this.2 _ _ _ _ _ _ (phi1 k1) (phi1 k2) k3⟩

theorem padd_ok {P Q : Pt} (hP : POk P) (hQ : POk Q) : POk (pAdd P Q) := (padd_all hP hQ).1

/-- Sums go in any order. -/
theorem padd_comm {P Q : Pt} (hP : POk P) (hQ : POk Q) : pAdd P Q = pAdd Q P := by
  obtain ⟨x1, y1, k1⟩ := ep_ex hP
  obtain ⟨x2, y2, k2⟩ := ep_ex hQ
  obtain ⟨a, b, ka⟩ := ep_ex (padd_ok hP hQ)
  obtain ⟨c, d, kc⟩ := ep_ex (padd_ok hQ hP)
  have s1 := (padd_all hP hQ).2 _ _ _ _ _ _ k1 k2 ka
  have s2 := ((padd_all hQ hP).2 _ _ _ _ _ _ k2 k1 kc).swap
  have h := ed_one (ep_ed hP k1) (ep_ed hQ k2) s1 s2
  exact ep_inj (padd_ok hP hQ) (padd_ok hQ hP) ka kc h.1 h.2

theorem padd_assoc {P Q R : Pt} (hP : POk P) (hQ : POk Q) (hR : POk R) : pAdd (pAdd P Q) R = pAdd P (pAdd Q R) := by
  have h12 := padd_ok hP hQ
  have h23 := padd_ok hQ hR
  have hl := padd_ok h12 hR
  have hr := padd_ok hP h23
  obtain ⟨x1, y1, k1⟩ := ep_ex hP
  obtain ⟨x2, y2, k2⟩ := ep_ex hQ
  obtain ⟨x3, y3, k3⟩ := ep_ex hR
  obtain ⟨a, b, ka⟩ := ep_ex h12
  obtain ⟨c, d, kc⟩ := ep_ex h23
  obtain ⟨s, t, ks⟩ := ep_ex hl
  obtain ⟨s', t', ks'⟩ := ep_ex hr
  have h := ed_assoc (ep_ed hP k1) (ep_ed hQ k2) (ep_ed hR k3) ((padd_all hP hQ).2 _ _ _ _ _ _ k1 k2 ka) ((padd_all h12 hR).2 _ _ _ _ _ _ ka k3 ks) ((padd_all hQ hR).2 _ _ _ _ _ _ k2 k3 kc) ((padd_all hP h23).2 _ _ _ _ _ _ k1 kc ks')
  exact ep_inj hl hr ks ks' h.1 h.2

theorem pz_ok : POk pZ := .inl rfl
theorem zero_padd (P : Pt) : pAdd pZ P = P := rfl
theorem padd_zero {P : Pt} (h : POk P) : pAdd P pZ = P := by rw [padd_comm h pz_ok]; rfl

theorem pneg_ok {P : Pt} (h : POk P) : POk (pNeg P) := by
  rcases h with rfl | ⟨p0, pa, pb, pw⟩
  · exact pz_ok
  · have e : pNeg P = (P.1, fpSub 0 P.2.1, false) := by unfold pNeg; rw [if_neg (by rw [p0]; exact Bool.false_ne_true)]
    rw [e]
    refine .inr ⟨rfl, pa, ⟨fp_nonneg _, fp_lt _⟩, ?_⟩
    have h0 := dv_sub 0 P.2.1
    exact (pw.add (h0.mul (fpSub 0 P.2.1 - P.2.1))).of (by simp only; grind)

theorem padd_neg {P : Pt} (h : POk P) : pAdd P (pNeg P) = pZ := by
  rcases h with rfl | ⟨p0, pa, pb, pw⟩
  · rfl
  · have e : pNeg P = (P.1, fpSub 0 P.2.1, false) := by unfold pNeg; rw [if_neg (by rw [p0]; exact Bool.false_ne_true)]
    rw [e]
    unfold pAdd
    have hs : fpAdd P.2.1 (fpSub 0 P.2.1) = 0 := by
      rw [fpAdd_eq, fpSub_eq, fp_add_right]
      rw [show P.2.1 + (0 - P.2.1) = 0 by omega]; rfl
    rw [if_neg (by rw [p0]; exact Bool.false_ne_true), if_neg Bool.false_ne_true, if_neg (fun h => h rfl), if_pos hs]

end Go.Proofs.YthnahalboomkoaaGreat

/-
  A point put together so often; the base point and its order.
-/
namespace Go.Proofs.YthnahalboomkoaaGreat

/-- A point put together so often. -/
def pMul (P : Pt) : Nat → Pt
  | 0 => pZ
  | n + 1 => pAdd (pMul P n) P
theorem pmul_ok {P : Pt} (h : POk P) : ∀ n, POk (pMul P n)
  | 0 => pz_ok
  | n + 1 => padd_ok (pmul_ok h n) h
theorem pmul_add {P : Pt} (h : POk P) (m : Nat) : ∀ n, pMul P (m + n) = pAdd (pMul P m) (pMul P n)
  | 0 => (padd_zero (pmul_ok h m)).symm
  | n + 1 => by
    show pAdd (pMul P (m + n)) P = pAdd (pMul P m) (pAdd (pMul P n) P)
    rw [pmul_add h m n, padd_assoc (pmul_ok h m) (pmul_ok h n) h]
theorem pmul_one {P : Pt} : pMul P 1 = P := zero_padd P
theorem pmul_mul {P : Pt} (h : POk P) (m : Nat) : ∀ n, pMul (pMul P m) n = pMul P (m * n)
  | 0 => rfl
  | n + 1 => by
    show pAdd (pMul (pMul P m) n) (pMul P m) = _
    rw [pmul_mul h m n, Nat.mul_succ, pmul_add h]
theorem pmul_zero : ∀ n, pMul pZ n = pZ
  | 0 => rfl
  | n + 1 => by show pAdd (pMul pZ n) pZ = pZ; rw [pmul_zero n]; rfl

/-- The base point. -/
def pB : Pt := (8445, 859, false)
theorem pb_ok : POk pB := .inr ⟨rfl, ⟨by decide, by decide⟩, ⟨by decide, by decide⟩, ⟨-49746427, by decide⟩⟩

theorem b2 : pMul pB 2 = (8558, 1817, false) := by rw [pmul_add pb_ok 1 1, pmul_one]; decide +kernel
theorem b3 : pMul pB 3 = (7244, 3323, false) := by rw [pmul_add pb_ok 2 1, b2, pmul_one]; decide +kernel
theorem b6 : pMul pB 6 = (3997, 5536, false) := by rw [pmul_add pb_ok 3 3, b3]; decide +kernel
theorem b7 : pMul pB 7 = (974, 5050, false) := by rw [pmul_add pb_ok 6 1, b6, pmul_one]; decide +kernel
theorem b14 : pMul pB 14 = (3742, 3957, false) := by rw [pmul_add pb_ok 7 7, b7]; decide +kernel
theorem b15 : pMul pB 15 = (3129, 10372, false) := by rw [pmul_add pb_ok 14 1, b14, pmul_one]; decide +kernel
theorem b30 : pMul pB 30 = (9868, 2141, false) := by rw [pmul_add pb_ok 15 15, b15]; decide +kernel
theorem b31 : pMul pB 31 = (2988, 10600, false) := by rw [pmul_add pb_ok 30 1, b30, pmul_one]; decide +kernel
theorem b62 : pMul pB 62 = (8125, 8913, false) := by rw [pmul_add pb_ok 31 31, b31]; decide +kernel
theorem b63 : pMul pB 63 = (1114, 93, false) := by rw [pmul_add pb_ok 62 1, b62, pmul_one]; decide +kernel
theorem b126 : pMul pB 126 = (5746, 2830, false) := by rw [pmul_add pb_ok 63 63, b63]; decide +kernel
theorem b252 : pMul pB 252 = (9765, 9041, false) := by rw [pmul_add pb_ok 126 126, b126]; decide +kernel
theorem b504 : pMul pB 504 = (11327, 2132, false) := by rw [pmul_add pb_ok 252 252, b252]; decide +kernel
theorem b1008 : pMul pB 1008 = (8445, 11248, false) := by rw [pmul_add pb_ok 504 504, b504]; decide +kernel
theorem b1009 : pMul pB 1009 = pZ := by rw [pmul_add pb_ok 1008 1, b1008, pmul_one]; decide +kernel

end Go.Proofs.YthnahalboomkoaaGreat

/-
  There are 12108 points; so often put together every point is Zero. What is Zero 1009 times is a multiple of the base.
-/
namespace Go.Proofs.YthnahalboomkoaaGreat

/-- What the square of Y is at X. -/
def rhs (x : Int) : Int := fpAdd (fpMul (fpMul x x) x) x
theorem rhs_in (x : Int) : 0 ≤ rhs x ∧ rhs x < 12107 := ⟨fp_nonneg _, fp_lt _⟩
theorem dv_rhs (x : Int) : Dv (rhs x - (x ^ 3 + x)) := by
  have h1 := dv_mul x x
  have h2 := dv_mul (fpMul x x) x
  have h3 := dv_add (fpMul (fpMul x x) x) x
  unfold rhs
  exact ((h3.add h2).add (h1.mul x)).of (by grind)
theorem wc_rhs {x y : Int} : Wc x y ↔ fpMul y y = rhs x := by
  have h1 := dv_rhs x
  have h2 := dv_mul y y
  constructor
  · intro h
    refine small_eq (fp_nonneg _) (fp_lt _) (rhs_in x).1 (rhs_in x).2 ?_
    exact ((h2.sub h1).add h).of (by grind)
  · intro h
    have h3 : Dv (rhs x - y * y) := h ▸ h2
    exact ((h1.sub h3)).of (by grind)

/-- The points with this X. -/
def ptsAt (x : Int) : List Pt :=
  if rhs x = 0 then [(x, 0, false)] else if rootB (rhs x) = true then [(x, rootV (rhs x), false), (x, fpSub 0 (rootV (rhs x)), false)] else []

/-- All points. -/
def pts : List Pt := pZ :: (List.range 12107).flatMap fun (x : Nat) => ptsAt (x : Int)

theorem padd_drop {P Q R : Pt} (hP : POk P) (hQ : POk Q) (hR : POk R) (h : pAdd P R = pAdd Q R) : P = Q := by
  have e : ∀ {S : Pt}, POk S → pAdd (pAdd S R) (pNeg R) = S := fun hS => by
    rw [padd_assoc hS hR (pneg_ok hR), padd_neg hR, padd_zero hS]
  rw [← e hP, h, e hQ]

end Go.Proofs.YthnahalboomkoaaGreat

/-
  Points as the program and the specification tell of them: right ones, sums, so often.
-/
namespace Go.Proofs.YthnahalboomkoaaGreat

/-- Whether a point is right. -/
def pOkB (P : Pt) : Bool := if P.2.2 = true then (P.1 == 0 && P.2.1 == 0) else (fpOk P.1 && fpOk P.2.1 && fpMul P.2.1 P.2.1 == rhs P.1)

theorem pokB {P : Pt} : pOkB P = true ↔ POk P := by
  obtain ⟨x, y, z⟩ := P
  unfold pOkB POk pZ
  cases z
  · simp [fpOk, wc_rhs, and_assoc]
  · simp

/-- The sum of two points, whatever they are. -/
def pSum (P Q : Pt) : Pt := if pOkB P && pOkB Q then pAdd P Q else pZ
theorem psum_ok (P Q : Pt) : POk (pSum P Q) := by
  unfold pSum
  split
  · rename_i h
    rw [Bool.and_eq_true] at h
    exact padd_ok (pokB.1 h.1) (pokB.1 h.2)
  · exact pz_ok
theorem psum_eq {P Q : Pt} (hP : POk P) (hQ : POk Q) : pSum P Q = pAdd P Q := by
  unfold pSum
  rw [pokB.2 hP, pokB.2 hQ]
  rfl

/-- A point so often, whatever it is. -/
def pTimes (k : Int) (P : Pt) : Pt :=
  if pOkB P = true then (if Int.tmod k 12108 < 0 then pMul (pNeg P) (Int.tmod k 12108).natAbs else pMul P (Int.tmod k 12108).natAbs) else pZ
theorem ptimes_ok (k : Int) (P : Pt) : POk (pTimes k P) := by
  unfold pTimes
  split
  · rename_i h
    split
    · exact pmul_ok (pneg_ok (pokB.1 h)) _
    · exact pmul_ok (pokB.1 h) _
  · exact pz_ok
theorem ptimes_nat {P : Pt} (h : POk P) (n : Nat) : pTimes (n : Int) P = pMul P (n % 12108) := by
  unfold pTimes
  rw [if_pos (pokB.2 h), Int.tmod_eq_emod_of_nonneg (by omega), if_neg (by omega)]
  congr 1
theorem ptimes_small {P : Pt} (h : POk P) {n : Nat} (hn : n < 12108) : pTimes (n : Int) P = pMul P n := by
  rw [ptimes_nat h, Nat.mod_eq_of_lt hn]

/-- Whether a point is in the group. -/
def inGB (P : Pt) : Bool := pOkB P && (pTimes 1009 P).2.2
theorem ing_iff {P : Pt} : inGB P = true ↔ POk P ∧ pMul P 1009 = pZ := by
  unfold inGB
  rw [Bool.and_eq_true, pokB]
  constructor
  · rintro ⟨h1, h2⟩
    refine ⟨h1, ?_⟩
    have e := ptimes_small h1 (n := 1009) (by decide)
    have h3 : (pMul P 1009).2.2 = true := by rw [← e]; exact h2
    rcases pmul_ok h1 1009 with h4 | ⟨h4, _⟩
    · exact h4
    · rw [h4] at h3; cases h3
  · rintro ⟨h1, h2⟩
    have e := ptimes_small h1 (n := 1009) (by decide)
    exact ⟨h1, by show (pTimes ((1009 : Nat) : Int) P).2.2 = true; rw [e, h2]; rfl⟩

/-- A round of the doubling. -/
theorem dbl_odd {R B : Pt} (hR : POk R) (hB : POk B) {n : Nat} (h : n % 2 = 1) : pAdd (pAdd R B) (pMul (pAdd B B) (n / 2)) = pAdd R (pMul B n) := by
  have e : pAdd B B = pMul B 2 := by rw [pmul_add hB 1 1, pmul_one]
  rw [e, pmul_mul hB, padd_assoc hR hB (pmul_ok hB _)]
  congr 1
  have : pMul B n = pMul B (1 + 2 * (n / 2)) := by rw [show 1 + 2 * (n / 2) = n by omega]
  rw [this, pmul_add hB, pmul_one]
theorem dbl_even {R B : Pt} (hB : POk B) {n : Nat} (h : n % 2 = 0) : pAdd R (pMul (pAdd B B) (n / 2)) = pAdd R (pMul B n) := by
  have e : pAdd B B = pMul B 2 := by rw [pmul_add hB 1 1, pmul_one]
  rw [e, pmul_mul hB, show 2 * (n / 2) = n by omega]

/-- A point in bytes. -/
def ptBytes (P : Pt) : List UInt8 :=
  if pOkB P = true then (if P.2.2 = true then [0, 0, 0] else [UInt8.ofNat ((P.1.toNat + 1) / 256), UInt8.ofNat ((P.1.toNat + 1) % 256), UInt8.ofNat (P.2.1.toNat % 2)]) else []
def ptText (P : Pt) : ByteArray := ⟨(ptBytes P).toArray⟩

end Go.Proofs.YthnahalboomkoaaGreat
