/-
  Texts of one's own, joined.
-/
import Derived.Test.YtbkfdafdchjakabJoined2
import Derived.Test.YtbkfdafdchjakabJoined12
import Derived.ProofKit
import Derived.Test.YtbkfdafdchjakabJoined1

/-
  Keys, and what they sign.
-/
namespace Go.Proofs.Ytbkfdafdchjakab

/-- The key of a secret, and what it signs. -/
def keyP (k : Int) : Pt := pTimes (sca k) pB
def signP (k : Int) (H : Pt) : Pt := pTimes (sca k) H

theorem sca_nat (k : Int) : sca k = (scn k : Int) ∧ scn k < 1009 := by
  have h0 := sca_nonneg k
  have h1 := sca_lt k
  unfold scn
  omega

theorem key_mul (k : Int) : keyP k = pMul pB (scn k) := by
  unfold keyP
  obtain ⟨h1, h2⟩ := sca_nat k
  rw [h1, ptimes_small pb_ok (by omega)]

end Go.Proofs.Ytbkfdafdchjakab

/-
  Lines of three points and of their sums: identities.
-/
namespace Go.Proofs.Ytbkfdafdchjakab

set_option maxHeartbeats 4000000 in
theorem coc_al (a b x y x1 x3 : Int) : ((y + b * (x3 - x)) - (-(a * ((a ^ 2 - x1 - x) - x) + y))) * ((b ^ 2 - x3 - x) - x1) - ((-(b * ((b ^ 2 - x3 - x) - x) + y)) - (y + a * (x1 - x))) * (x3 - (a ^ 2 - x1 - x)) - (b - a) * (x3 - (a ^ 2 - x1 - x)) * ((b ^ 2 - x3 - x) - x1) = (-a - b) * (x1 * (a ^ 2 - x1 - x) - (1 - 2 * a * (y - a * x) - x * (a ^ 2 - x))) + (a + b) * (x3 * (b ^ 2 - x3 - x) - (1 - 2 * b * (y - b * x) - x * (b ^ 2 - x))) := by grind

set_option maxHeartbeats 4000000 in
theorem coc_be (a b x y x1 x3 : Int) : ((a ^ 2 - x1 - x) * (x3 - (a ^ 2 - x1 - x)) + a * ((y + b * (x3 - x)) - (-(a * ((a ^ 2 - x1 - x) - x) + y)))) * ((b ^ 2 - x3 - x) - x1) - ((b ^ 2 - x3 - x) * ((b ^ 2 - x3 - x) - x1) + b * ((-(b * ((b ^ 2 - x3 - x) - x) + y)) - (y + a * (x1 - x)))) * (x3 - (a ^ 2 - x1 - x)) = (-a*b - x - x1 - x3) * (x1 * (a ^ 2 - x1 - x) - (1 - 2 * a * (y - a * x) - x * (a ^ 2 - x))) + (a*b + x + x1 + x3) * (x3 * (b ^ 2 - x3 - x) - (1 - 2 * b * (y - b * x) - x * (b ^ 2 - x))) := by grind

set_option maxHeartbeats 4000000 in
theorem coc_ga (a b x y x1 x3 : Int) : (((a ^ 2 - x1 - x) ^ 2 + 1) * (x3 - (a ^ 2 - x1 - x)) - a * ((y + b * (x3 - x)) - (-(a * ((a ^ 2 - x1 - x) - x) + y))) * (a ^ 2 - x1 - x) + (a * (x3 - (a ^ 2 - x1 - x)) - ((y + b * (x3 - x)) - (-(a * ((a ^ 2 - x1 - x) - x) + y)))) * (-(a * ((a ^ 2 - x1 - x) - x) + y))) * ((b ^ 2 - x3 - x) - x1) - (((b ^ 2 - x3 - x) ^ 2 + 1) * ((b ^ 2 - x3 - x) - x1) - b * ((-(b * ((b ^ 2 - x3 - x) - x) + y)) - (y + a * (x1 - x))) * (b ^ 2 - x3 - x) + (b * ((b ^ 2 - x3 - x) - x1) - ((-(b * ((b ^ 2 - x3 - x) - x) + y)) - (y + a * (x1 - x)))) * (-(b * ((b ^ 2 - x3 - x) - x) + y))) * (x3 - (a ^ 2 - x1 - x)) = (a^2*b^2 - a^2*x - a^2*x1 - a^2*x3 + a*b*x - a*y - 2*b^2*x - b^2*x1 + b*y + x^2 + 3*x*x1 + 2*x*x3 + x1^2 + 2*x1*x3 - 1) * (x1 * (a ^ 2 - x1 - x) - (1 - 2 * a * (y - a * x) - x * (a ^ 2 - x))) + (-a^2*b^2 + 2*a^2*x + a^2*x3 - a*b*x - a*y + b^2*x + b^2*x1 + b^2*x3 + b*y - x^2 - 2*x*x1 - 3*x*x3 - 2*x1*x3 - x3^2 + 1) * (x3 * (b ^ 2 - x3 - x) - (1 - 2 * b * (y - b * x) - x * (b ^ 2 - x))) := by grind

end Go.Proofs.Ytbkfdafdchjakab

/-
  Lines of three points and of their sums, at a point: their products are alike but for numbers of the field.
-/
namespace Go.Proofs.Ytbkfdafdchjakab

/-- Two lines through one point and the other way round of it, at X0: what their product is. -/
theorem line_two {a c X Y X0 q : Int} (h : Wc X Y) (hq : Dv (q ^ 2 + X0 ^ 3 + X0)) :
    Dv ((a * (X0 - X) - Y) * (c * (X0 - X) + Y) - q ^ 2 - (X0 - X) * (X0 ^ 2 + (X + a * c) * X0 + (X ^ 2 + 1 - a * c * X + (a - c) * Y))) :=
  (h.neg.sub hq).of (by grind)

section
variable {a b c d x y x1 x3 : Int}

/-- The sums of the slopes, and what goes with them. -/
theorem coc_data (r1 : Dv (x1 * (a ^ 2 - x1 - x) - (1 - 2 * a * (y - a * x) - x * (a ^ 2 - x)))) (r3 : Dv (x3 * (b ^ 2 - x3 - x) - (1 - 2 * b * (y - b * x) - x * (b ^ 2 - x))))
    (hc : Dv (c * (x3 - (a ^ 2 - x1 - x)) - ((y + b * (x3 - x)) - (-(a * ((a ^ 2 - x1 - x) - x) + y))))) (hd : Dv (d * ((b ^ 2 - x3 - x) - x1) - ((-(b * ((b ^ 2 - x3 - x) - x) + y)) - (y + a * (x1 - x)))))
    (hn : ¬ Dv (x3 - (a ^ 2 - x1 - x))) (hm : ¬ Dv ((b ^ 2 - x3 - x) - x1)) :
    Dv ((a + c) - (b + d)) ∧ Dv (((a ^ 2 - x1 - x) + a * c) - ((b ^ 2 - x3 - x) + b * d)) ∧
    Dv (((a ^ 2 - x1 - x) ^ 2 + 1 - a * c * (a ^ 2 - x1 - x) + (a - c) * (-(a * ((a ^ 2 - x1 - x) - x) + y))) - ((b ^ 2 - x3 - x) ^ 2 + 1 - b * d * (b ^ 2 - x3 - x) + (b - d) * (-(b * ((b ^ 2 - x3 - x) - x) + y)))) := by
  have al := ((r1.mull _).add (r3.mull _)).of (coc_al a b x y x1 x3)
  have be := ((r1.mull _).add (r3.mull _)).of (coc_be a b x y x1 x3)
  have ga := ((r1.mull _).add (r3.mull _)).of (coc_ga a b x y x1 x3)
  clear r1 r3
  generalize (y + b * (x3 - x)) - (-(a * ((a ^ 2 - x1 - x) - x) + y)) = N at *
  generalize (-(b * ((b ^ 2 - x3 - x) - x) + y)) - (y + a * (x1 - x)) = M at *
  generalize (-(a * ((a ^ 2 - x1 - x) - x) + y)) = Y at *
  generalize (-(b * ((b ^ 2 - x3 - x) - x) + y)) = Z at *
  generalize x3 - (a ^ 2 - x1 - x) = n at *
  generalize (b ^ 2 - x3 - x) - x1 = m at *
  generalize a ^ 2 - x1 - x = X at *
  generalize b ^ 2 - x3 - x = V at *
  refine ⟨dv_prime (a := n) (dv_prime (a := m) ?_ hm) hn, dv_prime (a := n) (dv_prime (a := m) ?_ hm) hn, dv_prime (a := n) (dv_prime (a := m) ?_ hm) hn⟩
  · exact ((al.add (hc.mul m)).sub (hd.mul n)).of (by grind)
  · exact ((be.add (hc.mul (a * m))).sub (hd.mul (b * n))).of (by grind)
  · exact ((ga.sub (hc.mul ((a * X + Y) * m))).add (hd.mul ((b * V + Z) * n))).of (by grind)

end

/-- The same where the sum of two is the third. -/
theorem coc_tan {a b c d x y X Y : Int} (ey : Wc x y) (eY : Wc X Y) (h1 : Dv (-Y - (y + a * (X - x)))) (h2 : Dv (Y - (y + b * (X - x)))) (hw : ¬ Dv (X - x)) (hY : ¬ Dv Y) (hm : ¬ Dv ((b ^ 2 - x - X) - (a ^ 2 - x - X)))
    (hc : Dv (2 * c * Y - (3 * X ^ 2 + 1))) (hd : Dv (d * ((b ^ 2 - x - X) - (a ^ 2 - x - X)) - ((-(y + b * ((b ^ 2 - x - X) - x))) - (y + a * ((a ^ 2 - x - X) - x))))) :
    Dv ((a + c) - (b + d)) ∧ Dv ((X + a * c) - ((b ^ 2 - x - X) + b * d)) ∧
    Dv ((X ^ 2 + 1 - a * c * X + (a - c) * Y) - ((b ^ 2 - x - X) ^ 2 + 1 - b * d * (b ^ 2 - x - X) + (b - d) * (-(y + b * ((b ^ 2 - x - X) - x))))) := by
  have hb1 : ¬ Dv (b + a) := fun k => hm ((k.mul (b - a)).of (by grind))
  have c1 : Dv ((X - x) * (a * b * (X - x) + (x ^ 2 + x * X + X ^ 2 + 1))) := (((h2.mul (Y + y)).sub (h1.mul (b * (X - x)))).sub (eY.sub ey)).of (by grind)
  have c1 := dv_prime c1 hw
  have y2 : Dv (2 * y + (a + b) * (X - x)) := (h1.add h2).neg.of (by grind)
  have Y2 : Dv (2 * Y - (b - a) * (X - x)) := (h2.sub h1).of (by grind)
  have d1 : Dv ((b + a) * ((b - a) * d - (2 * X + x - a ^ 2 + a * b - b ^ 2))) := (hd.sub y2).of (by grind)
  have d1 := dv_prime d1 hb1
  have cd : Dv (2 * (Y * (c - (d - a + b)))) := (((hc.sub (Y2.mul (d - a + b))).sub (d1.mul (X - x))).add c1).of (by grind)
  have cd := dv_prime (dv_prime cd dv_two) hY
  refine ⟨cd.of (by grind), ((cd.mul a).sub d1).of (by grind), dv_prime (a := 2) ?_ dv_two⟩
  exact ((((cd.mul (-2 * X * a - 2 * Y)).add (y2.mul (b - d))).add (Y2.mul (2 * a - b - d))).add (d1.mul (2 * x))).of (by grind)

/-- A line of slope l through two points, and their sum. -/
structure Ad (l u1 v1 u2 v2 u3 v3 : Int) : Prop where
  on : Dv (v2 - (v1 + l * (u2 - u1)))
  third : Dv (u3 - (l ^ 2 - u1 - u2))
  turn : Dv (v3 + (v1 + l * (u3 - u1)))
  two : Dv (u1 * u2 + (u1 + u2) * u3 - (1 - 2 * l * (v1 - l * u1)))

theorem Ad.swap {l u1 v1 u2 v2 u3 v3 : Int} (h : Ad l u1 v1 u2 v2 u3 v3) : Ad l u2 v2 u1 v1 u3 v3 :=
  ⟨h.on.neg.of (by grind), h.third.of (by grind), (h.turn.add h.on).of (by grind), (h.two.add (h.on.mul (2 * l))).of (by grind)⟩

/-- What goes with the slopes: nothing hangs on the order. -/
def SameC (a c e f b d g h : Int) : Prop := Dv ((a + c) - (b + d)) ∧ Dv ((e + a * c) - (g + b * d)) ∧ Dv ((e ^ 2 + 1 - a * c * e + (a - c) * f) - (g ^ 2 + 1 - b * d * g + (b - d) * h))
theorem SameC.swap {a c e f b d g h : Int} (k : SameC a c e f b d g h) : SameC b d g h a c e f := ⟨k.1.neg.of (by grind), k.2.1.neg.of (by grind), k.2.2.neg.of (by grind)⟩
theorem SameC.to {a c e f b d g h e' f' g' h' : Int} (k : SameC a c e f b d g h) (he : Dv (e - e')) (hf : Dv (f - f')) (hg : Dv (g - g')) (hh : Dv (h - h')) : SameC a c e' f' b d g' h' :=
  ⟨k.1, ((k.2.1.sub he).add hg).of (by grind), ((((k.2.2.sub (he.mul (e + e' - a * c))).sub (hf.mul (a - c))).add (hg.mul (g + g' - b * d))).add (hh.mul (b - d))).of (by grind)⟩

section
variable {a b c d u1 v1 u2 v2 u3 v3 e f g h k1 k2 k3 k4 : Int}

theorem same_gen (A : Ad a u1 v1 u2 v2 e f) (B : Ad b u2 v2 u3 v3 g h) (C : Ad c e f u3 v3 k1 k2) (D : Ad d u1 v1 g h k3 k4) (hn : ¬ Dv (u3 - e)) (hm : ¬ Dv (g - u1)) : SameC a c e f b d g h := by
  have eX := A.third
  have eV := B.third
  have eY : Dv (f - (-(a * ((a ^ 2 - u1 - u2) - u2) + v2))) := ((A.turn.add A.on).sub (eX.mul a)).of (by grind)
  have eZ : Dv (h - (-(b * ((b ^ 2 - u3 - u2) - u2) + v2))) := (B.turn.sub (eV.mul b)).of (by grind)
  have eV' : Dv (g - (b ^ 2 - u3 - u2)) := eV.of (by grind)
  have r1 : Dv (u1 * (a ^ 2 - u1 - u2) - (1 - 2 * a * (v2 - a * u2) - u2 * (a ^ 2 - u2))) := ((A.two.add (A.on.mul (2 * a))).sub (eX.mul (u1 + u2))).of (by grind)
  have r3 : Dv (u3 * (b ^ 2 - u3 - u2) - (1 - 2 * b * (v2 - b * u2) - u2 * (b ^ 2 - u2))) := (B.two.sub (eV.mul (u2 + u3))).of (by grind)
  have hc : Dv (c * (u3 - (a ^ 2 - u1 - u2)) - ((v2 + b * (u3 - u2)) - (-(a * ((a ^ 2 - u1 - u2) - u2) + v2)))) := (((B.on.sub C.on).add (eX.mul c)).sub eY).of (by grind)
  have hd : Dv (d * ((b ^ 2 - u3 - u2) - u1) - ((-(b * ((b ^ 2 - u3 - u2) - u2) + v2)) - (v2 + a * (u1 - u2)))) := (((eZ.sub D.on).sub (eV'.mul d)).add A.on).of (by grind)
  have hn' : ¬ Dv (u3 - (a ^ 2 - u1 - u2)) := fun k => hn ((k.sub eX).of (by grind))
  have hm' : ¬ Dv ((b ^ 2 - u3 - u2) - u1) := fun k => hm ((k.add eV').of (by grind))
  exact SameC.to (coc_data r1 r3 hc hd hn' hm') (eX.neg.of (by grind)) (eY.neg.of (by grind)) (eV'.neg.of (by grind)) (eZ.neg.of (by grind))

theorem same_tan (w2 : Wc u2 v2) (wS : Wc e f) (A : Ad a u1 v1 u2 v2 e f) (B : Ad b u2 v2 u3 v3 g h) (C : Ad c e f u3 v3 k1 k2) (D : Ad d u1 v1 g h k3 k4) (hn : Dv (u3 - e)) (hm : ¬ Dv (g - u1)) (hw : ¬ Dv (e - u2)) (hf : ¬ Dv f) : SameC a c e f b d g h := by
  have hv : Dv (v3 - f) := (C.on.add (hn.mul c)).of (by grind)
  have h1 : Dv (-f - (v2 + a * (e - u2))) := (A.turn.add A.on).neg.of (by grind)
  have h2 : Dv (f - (v2 + b * (e - u2))) := ((B.on.sub hv).add (hn.mul b)).of (by grind)
  have e1 : Dv (u1 - (a ^ 2 - u2 - e)) := A.third.of (by grind)
  have eV : Dv (g - (b ^ 2 - u2 - e)) := (B.third.sub hn).of (by grind)
  have eZ : Dv (h - (-(v2 + b * ((b ^ 2 - u2 - e) - u2)))) := (B.turn.sub (eV.mul b)).of (by grind)
  have hm' : ¬ Dv ((b ^ 2 - u2 - e) - (a ^ 2 - u2 - e)) := fun k => hm (((k.add eV).sub e1).of (by grind))
  have hc : Dv (2 * c * f - (3 * e ^ 2 + 1)) := ((C.two.sub (C.third.mul (e + u3))).add (hn.mul (e + u3 - c ^ 2 + e))).of (by grind)
  have hd : Dv (d * ((b ^ 2 - u2 - e) - (a ^ 2 - u2 - e)) - ((-(v2 + b * ((b ^ 2 - u2 - e) - u2))) - (v2 + a * ((a ^ 2 - u2 - e) - u2)))) := ((((eZ.sub D.on).sub (eV.mul d)).add (e1.mul (d - a))).add A.on).of (by grind)
  exact SameC.to (coc_tan w2 wS h1 h2 hw hf hm' hc hd) (dv_zero.of (by grind)) (dv_zero.of (by grind)) (eV.neg.of (by grind)) (eZ.neg.of (by grind))

/-- What the lines make at a point, one order and the other. -/
theorem same_lines {X0 q : Int} (k : SameC a c e f b d g h) (wS : Wc e f) (wT : Wc g h) (hq : Dv (q ^ 2 + X0 ^ 3 + X0)) :
    Dv ((X0 - g) * ((a * (X0 - e) - f) * (c * (X0 - e) + f) - q ^ 2) - (X0 - e) * ((b * (X0 - g) - h) * (d * (X0 - g) + h) - q ^ 2)) ∧
    Dv ((X0 - g) * ((a * (X0 - e) - f) + (c * (X0 - e) + f)) - (X0 - e) * ((b * (X0 - g) - h) + (d * (X0 - g) + h))) := by
  have t1 := line_two (a := a) (c := c) wS hq
  have t2 := line_two (a := b) (c := d) wT hq
  obtain ⟨al, be, ga⟩ := k
  exact ⟨(((t1.mul (X0 - g)).sub (t2.mul (X0 - e))).add (((be.mul X0).add ga).mul ((X0 - g) * (X0 - e)))).of (by grind), (al.mul ((X0 - g) * (X0 - e))).of (by grind)⟩

end
end Go.Proofs.Ytbkfdafdchjakab

/-
  A number two by two to 12107 is the number turned.
-/
namespace Go.Proofs.Ytbkfdafdchjakab

def q2 (p : Nat × Nat) : Nat × Nat := (Nat.mod (Nat.mul (Nat.add p.1 p.2) (Nat.sub (Nat.add p.1 12107) p.2)) 12107, Nat.mod (Nat.mul (Nat.mul 2 p.1) p.2) 12107)
def o2 (c : Nat) (p : Nat × Nat) : Nat × Nat := (Nat.mod (Nat.add p.1 (Nat.mul (Nat.sub 12107 p.2) c)) 12107, Nat.mod (Nat.add (Nat.mul p.1 c) p.2) 12107)
def m2 (c : Nat) (p : Nat × Nat) : Nat × Nat := o2 c (q2 p)
/-- 1 and c, to 12107. -/
def frob (c : Nat) : Nat × Nat := m2 c (m2 c (q2 (m2 c (q2 (q2 (m2 c (q2 (m2 c (m2 c (m2 c (m2 c (q2 (1, c)))))))))))))

/-- A pair of numbers that are not below 0, as a number two by two. -/
def cst (p : Nat × Nat) : Int × Int := ((p.1 : Int), (p.2 : Int))

theorem q2_cst {p : Nat × Nat} (h : p.2 ≤ 12107) : cst (q2 p) = fp2 (gm (cst p) (cst p)) := by
  obtain ⟨u, v⟩ := p
  unfold cst q2 fp2 gm fp
  have e : (u : Int) * u - (v : Int) * v = ((u + v : Nat) : Int) * ((u + 12107 - v : Nat) : Int) + 12107 * (-((u : Int) + v)) := by
    have : ((u + 12107 - v : Nat) : Int) = (u : Int) + 12107 - v := by simp only at h; omega
    rw [this]; grind
  have e' : (u : Int) * v + (v : Int) * u = ((2 * u * v : Nat) : Int) := by
    simp; grind
  simp only
  rw [e, e']
  ext
  · show ((((u + v) * (u + 12107 - v)) % 12107 : Nat) : Int) = _
    simp
  · show (((2 * u * v) % 12107 : Nat) : Int) = _
    simp

theorem o2_cst {c : Nat} {p : Nat × Nat} (h : p.2 ≤ 12107) : cst (o2 c p) = fp2 (gm (cst p) (1, (c : Int))) := by
  obtain ⟨u, v⟩ := p
  unfold cst o2 fp2 gm fp
  have e : (u : Int) * 1 - (v : Int) * c = (u : Int) + ((12107 - v : Nat) : Int) * c + 12107 * (-(c : Int)) := by
    have : ((12107 - v : Nat) : Int) = (12107 : Int) - v := by simp only at h; omega
    rw [this]; grind
  simp only
  rw [e, Int.mul_one]
  ext
  · show (((u + (12107 - v) * c) % 12107 : Nat) : Int) = _
    simp
  · show (((u * c + v) % 12107 : Nat) : Int) = _
    simp

theorem cst_le {p : Nat × Nat} {x : Int × Int} (h : cst p = fp2 x) : p.2 ≤ 12107 := by
  have h1 : ((p.2 : Nat) : Int) = fp x.2 := congrArg Prod.snd h
  have := fp_lt x.2
  omega

theorem q2_gp {c k : Nat} {p : Nat × Nat} (h : cst p = fp2 (gp (1, (c : Int)) k)) : cst (q2 p) = fp2 (gp (1, (c : Int)) (2 * k)) := by
  rw [q2_cst (cst_le h), h, fp2_gm, ← gp_add]
  congr 2; omega

theorem o2_gp {c k : Nat} {p : Nat × Nat} (h : cst p = fp2 (gp (1, (c : Int)) k)) : cst (o2 c p) = fp2 (gp (1, (c : Int)) (k + 1)) := by
  rw [o2_cst (cst_le h), h, fp2_left]
  rfl

theorem m2_gp {c k : Nat} {p : Nat × Nat} (h : cst p = fp2 (gp (1, (c : Int)) k)) : cst (m2 c p) = fp2 (gp (1, (c : Int)) (2 * k + 1)) := o2_gp (q2_gp h)

/-- The field's size, by name. -/
def eP : Nat := 12107
theorem eP_eq : eP = eF + 1 := rfl

theorem frob_gp {c : Nat} (h : c < 12107) : cst (frob c) = fp2 (gp (1, (c : Int)) eP) := by
  have h0 : cst (1, c) = fp2 (gp (1, (c : Int)) 1) := by
    rw [gp_one]; unfold cst fp2; simp only
    rw [fp_small (by omega) (by omega), fp_small (by omega) (by omega)]; rfl
  have h1 := m2_gp (m2_gp (m2_gp (m2_gp (q2_gp h0))))
  have h2 := q2_gp (q2_gp (m2_gp (q2_gp h1)))
  have h3 := m2_gp (m2_gp (q2_gp (m2_gp h2)))
  generalize he : 2 * (2 * (2 * (2 * (2 * (2 * (2 * (2 * (2 * (2 * (2 * (2 * (2 * 1) + 1) + 1) + 1) + 1)) + 1))) + 1)) + 1) + 1 = k at h3
  have hk : k = eP := by rw [← he]; rfl
  rw [← hk]; exact h3

def fits (c : Nat) : Bool := Nat.beq (frob c).1 1 && Nat.beq (frob c).2 (Nat.mod (Nat.sub 12107 c) 12107)
def fitsAll : Nat → Nat → Bool
  | 0, lo => fits lo
  | k + 1, lo => fitsAll k lo && fitsAll k (Nat.add lo (Nat.pow 2 k))

theorem fits_all : ∀ (k lo : Nat), fitsAll k lo = true → ∀ a, lo ≤ a → a < lo + 2 ^ k → fits a = true
  | 0, lo, h, a, h0, h1 => by
    have : a = lo := by simp at h1; omega
    rw [this]; exact h
  | k + 1, lo, h, a, h0, h1 => by
    simp only [fitsAll, Bool.and_eq_true] at h
    by_cases hc : a < lo + 2 ^ k
    · exact fits_all k lo h.1 a h0 hc
    · refine fits_all k (lo + 2 ^ k) h.2 a (by omega) ?_
      rw [Nat.pow_succ] at h1; omega

set_option maxRecDepth 100000 in
theorem fits_low : fitsAll 13 0 = true := by decide +kernel
set_option maxRecDepth 100000 in
theorem fits_high : fitsAll 13 3915 = true := by decide +kernel

theorem frob_one {c : Nat} (h : c < 12107) : fp2 (gp (1, (c : Int)) eP) = (1, fp (0 - (c : Int))) := by
  have g : fits c = true := by
    by_cases hc : c < 8192
    · exact fits_all 13 0 fits_low c (by omega) (by omega)
    · exact fits_all 13 3915 fits_high c (by omega) (by omega)
  unfold fits at g
  simp only [Bool.and_eq_true, Nat.beq_eq] at g
  rw [← frob_gp h]
  unfold cst
  rw [g.1, g.2]
  ext
  · rfl
  · show (((12107 - c) % 12107 : Nat) : Int) = _
    unfold fp; omega

/-- A number two by two to 12107 is the number turned. -/
theorem tp_frob {x : Int × Int} (h : In2 x) (h0 : x.1 ≠ 0) : tp x 12107 = tt x := by
  obtain ⟨a, b⟩ := x
  obtain ⟨⟨a0, a1⟩, b0, b1⟩ := h
  simp only at a0 a1 b0 b1 h0
  obtain ⟨m, rfl⟩ : ∃ m : Nat, a = m := ⟨a.toNat, by omega⟩
  have hn := fpMul_inv (a := (m : Int)) (by omega) a1
  rw [fpMul_eq] at hn
  obtain ⟨n, hn'⟩ : ∃ n, n = fpPow (m : Int) 12105 := ⟨_, rfl⟩
  rw [← hn'] at hn
  obtain ⟨c, hc⟩ : ∃ c : Nat, (c : Int) = fp (b * n) := ⟨(fp (b * n)).toNat, by have := fp_nonneg (b * n); omega⟩
  have hcl : c < 12107 := by have := fp_lt (b * n); omega
  obtain ⟨k, hk⟩ := fp_rep (b * n)
  obtain ⟨l, hl⟩ := fp_rep ((m : Int) * n)
  have hx : ((m : Int), b) = fp2 (gm ((m : Int), 0) (1, (c : Int))) := by
    unfold fp2 gm
    ext
    · simp only [Int.mul_one, Int.zero_mul, Int.sub_zero]; exact (fp_small a0 a1).symm
    · simp only [Int.zero_mul, Int.add_zero]
      rw [hc, hk]
      refine ((fp_to (y := b) (-l * b + m * k) ?_).trans (fp_small b0 b1)).symm
      rw [hl] at hn
      grind
  have hp : fp ((m : Int) ^ eP) = (m : Int) := by
    have e : (m : Int) ^ eP = ((m ^ eP : Nat) : Int) := by simp
    rw [e, eP_eq, Nat.pow_succ]
    have f := fermat (a := m) (by omega) (by omega)
    unfold fp
    have : (m ^ eF * m) % 12107 = m := by rw [Nat.mul_mod, f, Nat.one_mul, Nat.mod_mod, Nat.mod_eq_of_lt (by omega)]
    omega
  have ht : tp ((m : Int), b) 12107 = fp2 (gp ((m : Int), b) eP) := tp_nat _ eP
  have hg : fp2 ((m : Int) ^ eP, 0) = ((m : Int), 0) := by unfold fp2; simp only; rw [hp]; rfl
  rw [ht, hx, fp2_gp, gp_gm, gp_plain, ← fp2_gm, frob_one hcl, hg]
  rw [← hx]
  unfold fp2 gm tt
  ext
  · simp only [Int.mul_one, Int.zero_mul, Int.sub_zero]; exact fp_small a0 a1
  · simp only [Int.zero_mul, Int.add_zero]
    obtain ⟨j, hj⟩ := fp_rep (0 - (c : Int))
    rw [hj, hc, hk]
    refine fp_to (l * b - m * k + m * j) ?_
    rw [hl] at hn
    grind

end Go.Proofs.Ytbkfdafdchjakab
