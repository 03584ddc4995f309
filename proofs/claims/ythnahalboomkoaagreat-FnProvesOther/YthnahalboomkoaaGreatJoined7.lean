/-
  Texts of one's own, joined.
-/
import Derived.ProofKit
import Derived.Test.YthnahalboomkoaaGreatJoined2
import Derived.Test.YthnahalboomkoaaGreatJoined1

/-
  Lines of three points and of their sums: identities.
-/
namespace Go.Proofs.YthnahalboomkoaaGreat

set_option maxHeartbeats 4000000 in
theorem coc_al (a b x y x1 x3 : Int) : ((y + b * (x3 - x)) - (-(a * ((a ^ 2 - x1 - x) - x) + y))) * ((b ^ 2 - x3 - x) - x1) - ((-(b * ((b ^ 2 - x3 - x) - x) + y)) - (y + a * (x1 - x))) * (x3 - (a ^ 2 - x1 - x)) - (b - a) * (x3 - (a ^ 2 - x1 - x)) * ((b ^ 2 - x3 - x) - x1) = (-a - b) * (x1 * (a ^ 2 - x1 - x) - (1 - 2 * a * (y - a * x) - x * (a ^ 2 - x))) + (a + b) * (x3 * (b ^ 2 - x3 - x) - (1 - 2 * b * (y - b * x) - x * (b ^ 2 - x))) := by grind

set_option maxHeartbeats 4000000 in
theorem coc_be (a b x y x1 x3 : Int) : ((a ^ 2 - x1 - x) * (x3 - (a ^ 2 - x1 - x)) + a * ((y + b * (x3 - x)) - (-(a * ((a ^ 2 - x1 - x) - x) + y)))) * ((b ^ 2 - x3 - x) - x1) - ((b ^ 2 - x3 - x) * ((b ^ 2 - x3 - x) - x1) + b * ((-(b * ((b ^ 2 - x3 - x) - x) + y)) - (y + a * (x1 - x)))) * (x3 - (a ^ 2 - x1 - x)) = (-a*b - x - x1 - x3) * (x1 * (a ^ 2 - x1 - x) - (1 - 2 * a * (y - a * x) - x * (a ^ 2 - x))) + (a*b + x + x1 + x3) * (x3 * (b ^ 2 - x3 - x) - (1 - 2 * b * (y - b * x) - x * (b ^ 2 - x))) := by grind

set_option maxHeartbeats 4000000 in
theorem coc_ga (a b x y x1 x3 : Int) : (((a ^ 2 - x1 - x) ^ 2 + 1) * (x3 - (a ^ 2 - x1 - x)) - a * ((y + b * (x3 - x)) - (-(a * ((a ^ 2 - x1 - x) - x) + y))) * (a ^ 2 - x1 - x) + (a * (x3 - (a ^ 2 - x1 - x)) - ((y + b * (x3 - x)) - (-(a * ((a ^ 2 - x1 - x) - x) + y)))) * (-(a * ((a ^ 2 - x1 - x) - x) + y))) * ((b ^ 2 - x3 - x) - x1) - (((b ^ 2 - x3 - x) ^ 2 + 1) * ((b ^ 2 - x3 - x) - x1) - b * ((-(b * ((b ^ 2 - x3 - x) - x) + y)) - (y + a * (x1 - x))) * (b ^ 2 - x3 - x) + (b * ((b ^ 2 - x3 - x) - x1) - ((-(b * ((b ^ 2 - x3 - x) - x) + y)) - (y + a * (x1 - x)))) * (-(b * ((b ^ 2 - x3 - x) - x) + y))) * (x3 - (a ^ 2 - x1 - x)) = (a^2*b^2 - a^2*x - a^2*x1 - a^2*x3 + a*b*x - a*y - 2*b^2*x - b^2*x1 + b*y + x^2 + 3*x*x1 + 2*x*x3 + x1^2 + 2*x1*x3 - 1) * (x1 * (a ^ 2 - x1 - x) - (1 - 2 * a * (y - a * x) - x * (a ^ 2 - x))) + (-a^2*b^2 + 2*a^2*x + a^2*x3 - a*b*x - a*y + b^2*x + b^2*x1 + b^2*x3 + b*y - x^2 - 2*x*x1 - 3*x*x3 - 2*x1*x3 - x3^2 + 1) * (x3 * (b ^ 2 - x3 - x) - (1 - 2 * b * (y - b * x) - x * (b ^ 2 - x))) := by grind

end Go.Proofs.YthnahalboomkoaaGreat

/-
  Lines of three points and of their sums, at a point: their products are alike but for numbers of the field.
-/
namespace Go.Proofs.YthnahalboomkoaaGreat

/-- Two lines through one point and the other way round of it, at X0: what their product is. -/
theorem line_two {a c X Y X0 q : Int} (h : Wc X Y) (hq : Dv (q ^ 2 + X0 ^ 3 + X0)) :
    Dv ((a * (X0 - X) - Y) * (c * (X0 - X) + Y) - q ^ 2 - (X0 - X) * (X0 ^ 2 + (X + a * c) * X0 + (X ^ 2 + 1 - a * c * X + (a - c) * Y))) :=
  (h.neg.sub hq).of (by grind)

section
variable {a b c d x y x1 x3 : Int}

/-- The sums of the slopes, and what goes with them. -/
theorem coc_data (r1 : Dv (x1 * (a ^ 2 - x1 - x) - (1 - 2 * a * (y - a * x) - x * (a ^ 2 - x)))) (r3 : Dv (x3 * (b ^ 2 - x3 - x) - (1 - 2 * b * (y - b * x) - x * (b ^ 2 - x))))
    (hc : Dv (c * (x3 - (a ^ 2 - x1 - x)) - ((y + b * (x3 - x)) - (-(a * ((a ^ 2 - x1 - x) - x) + y))))) (hd : Dv (d * ((b ^ 2 - x3 - x) - x1) - ((-(b * ((b ^ 2 - x3 - x) - x) + y)) - (y + a * (x1 - x)))))
    (hn : ¬ Dv (x3 - (a ^ 2 - x1 - x))) (hm : ¬ Dv ((b ^ 2 - x3 - x) - x1)) :
    Dv ((a + c) - (b + d)) ∧ Dv (((a ^ 2 - x1 - x) + a * c) - ((b ^ 2 - x3 - x) + b * d)) ∧
    Dv (((a ^ 2 - x1 - x) ^ 2 + 1 - a * c * (a ^ 2 - x1 - x) + (a - c) * (-(a * ((a ^ 2 - x1 - x) - x) + y))) - ((b ^ 2 - x3 - x) ^ 2 + 1 - b * d * (b ^ 2 - x3 - x) + (b - d) * (-(b * ((b ^ 2 - x3 - x) - x) + y)))) := by
  have al := ((r1.mull _).add (r3.mull _)).of (coc_al a b x y x1 x3)
  have be := ((r1.mull _).add (r3.mull _)).of (coc_be a b x y x1 x3)
  have ga := ((r1.mull _).add (r3.mull _)).of (coc_ga a b x y x1 x3)
  clear r1 r3
  generalize (y + b * (x3 - x)) - (-(a * ((a ^ 2 - x1 - x) - x) + y)) = N at *
  generalize (-(b * ((b ^ 2 - x3 - x) - x) + y)) - (y + a * (x1 - x)) = M at *
  generalize (-(a * ((a ^ 2 - x1 - x) - x) + y)) = Y at *
  generalize (-(b * ((b ^ 2 - x3 - x) - x) + y)) = Z at *
  generalize x3 - (a ^ 2 - x1 - x) = n at *
  generalize (b ^ 2 - x3 - x) - x1 = m at *
  generalize a ^ 2 - x1 - x = X at *
  generalize b ^ 2 - x3 - x = V at *
  refine ⟨dv_prime (a := n) (dv_prime (a := m) ?_ hm) hn, dv_prime (a := n) (dv_prime (a := m) ?_ hm) hn, dv_prime (a := n) (dv_prime (a := m) ?_ hm) hn⟩
  · exact ((al.add (hc.mul m)).sub (hd.mul n)).of (by grind)
  · exact ((be.add (hc.mul (a * m))).sub (hd.mul (b * n))).of (by grind)
  · exact ((ga.sub (hc.mul ((a * X + Y) * m))).add (hd.mul ((b * V + Z) * n))).of (by grind)

end

/-- The same where the sum of two is the third. -/
theorem coc_tan {a b c d x y X Y : Int} (ey : Wc x y) (eY : Wc X Y) (h1 : Dv (-Y - (y + a * (X - x)))) (h2 : Dv (Y - (y + b * (X - x)))) (hw : ¬ Dv (X - x)) (hY : ¬ Dv Y) (hm : ¬ Dv ((b ^ 2 - x - X) - (a ^ 2 - x - X)))
    (hc : Dv (2 * c * Y - (3 * X ^ 2 + 1))) (hd : Dv (d * ((b ^ 2 - x - X) - (a ^ 2 - x - X)) - ((-(y + b * ((b ^ 2 - x - X) - x))) - (y + a * ((a ^ 2 - x - X) - x))))) :
    Dv ((a + c) - (b + d)) ∧ Dv ((X + a * c) - ((b ^ 2 - x - X) + b * d)) ∧
    Dv ((X ^ 2 + 1 - a * c * X + (a - c) * Y) - ((b ^ 2 - x - X) ^ 2 + 1 - b * d * (b ^ 2 - x - X) + (b - d) * (-(y + b * ((b ^ 2 - x - X) - x))))) := by
  have hb1 : ¬ Dv (b + a) := fun k => hm ((k.mul (b - a)).of (by grind))
  have c1 : Dv ((X - x) * (a * b * (X - x) + (x ^ 2 + x * X + X ^ 2 + 1))) := (((h2.mul (Y + y)).sub (h1.mul (b * (X - x)))).sub (eY.sub ey)).of (by grind)
  have c1 := dv_prime c1 hw
  have y2 : Dv (2 * y + (a + b) * (X - x)) := (h1.add h2).neg.of (by grind)
  have Y2 : Dv (2 * Y - (b - a) * (X - x)) := (h2.sub h1).of (by grind)
  have d1 : Dv ((b + a) * ((b - a) * d - (2 * X + x - a ^ 2 + a * b - b ^ 2))) := (hd.sub y2).of (by grind)
  have d1 := dv_prime d1 hb1
  have cd : Dv (2 * (Y * (c - (d - a + b)))) := (((hc.sub (Y2.mul (d - a + b))).sub (d1.mul (X - x))).add c1).of (by grind)
  have cd := dv_prime (dv_prime cd dv_two) hY
  refine ⟨cd.of (by grind), ((cd.mul a).sub d1).of (by grind), dv_prime (a := 2) ?_ dv_two⟩
  exact ((((cd.mul (-2 * X * a - 2 * Y)).add (y2.mul (b - d))).add (Y2.mul (2 * a - b - d))).add (d1.mul (2 * x))).of (by grind)

/-- A line of slope l through two points, and their sum. -/
structure Ad (l u1 v1 u2 v2 u3 v3 : Int) : Prop where
  on : Dv (v2 - (v1 + l * (u2 - u1)))
  third : Dv (u3 - (l ^ 2 - u1 - u2))
  turn : Dv (v3 + (v1 + l * (u3 - u1)))
  two : Dv (u1 * u2 + (u1 + u2) * u3 - (1 - 2 * l * (v1 - l * u1)))

theorem Ad.swap {l u1 v1 u2 v2 u3 v3 : Int} (h : Ad l u1 v1 u2 v2 u3 v3) : Ad l u2 v2 u1 v1 u3 v3 :=
  ⟨h.on.neg.of (by grind), h.third.of (by grind), (h.turn.add h.on).of (by grind), (h.two.add (h.on.mul (2 * l))).of (by grind)⟩

/-- What goes with the slopes: nothing hangs on the order. -/
def SameC (a c e f b d g h : Int) : Prop := Dv ((a + c) - (b + d)) ∧ Dv ((e + a * c) - (g + b * d)) ∧ Dv ((e ^ 2 + 1 - a * c * e + (a - c) * f) - (g ^ 2 + 1 - b * d * g + (b - d) * h))
theorem SameC.swap {a c e f b d g h : Int} (k : SameC a c e f b d g h) : SameC b d g h a c e f := ⟨k.1.neg.of (by grind), k.2.1.neg.of (by grind), k.2.2.neg.of (by grind)⟩
theorem SameC.to {a c e f b d g h e' f' g' h' : Int} (k : SameC a c e f b d g h) (he : Dv (e - e')) (hf : Dv (f - f')) (hg : Dv (g - g')) (hh : Dv (h - h')) : SameC a c e' f' b d g' h' :=
  ⟨k.1, ((k.2.1.sub he).add hg).of (by grind), ((((k.2.2.sub (he.mul (e + e' - a * c))).sub (hf.mul (a - c))).add (hg.mul (g + g' - b * d))).add (hh.mul (b - d))).of (by grind)⟩

section
variable {a b c d u1 v1 u2 v2 u3 v3 e f g h k1 k2 k3 k4 : Int}

theorem same_gen (A : Ad a u1 v1 u2 v2 e f) (B : Ad b u2 v2 u3 v3 g h) (C : Ad c e f u3 v3 k1 k2) (D : Ad d u1 v1 g h k3 k4) (hn : ¬ Dv (u3 - e)) (hm : ¬ Dv (g - u1)) : SameC a c e f b d g h := by
  have eX := A.third
  have eV := B.third
  have eY : Dv (f - (-(a * ((a ^ 2 - u1 - u2) - u2) + v2))) := ((A.turn.add A.on).sub (eX.mul a)).of (by grind)
  have eZ : Dv (h - (-(b * ((b ^ 2 - u3 - u2) - u2) + v2))) := (B.turn.sub (eV.mul b)).of (by grind)
  have eV' : Dv (g - (b ^ 2 - u3 - u2)) := eV.of (by grind)
  have r1 : Dv (u1 * (a ^ 2 - u1 - u2) - (1 - 2 * a * (v2 - a * u2) - u2 * (a ^ 2 - u2))) := ((A.two.add (A.on.mul (2 * a))).sub (eX.mul (u1 + u2))).of (by grind)
  have r3 : Dv (u3 * (b ^ 2 - u3 - u2) - (1 - 2 * b * (v2 - b * u2) - u2 * (b ^ 2 - u2))) := (B.two.sub (eV.mul (u2 + u3))).of (by grind)
  have hc : Dv (c * (u3 - (a ^ 2 - u1 - u2)) - ((v2 + b * (u3 - u2)) - (-(a * ((a ^ 2 - u1 - u2) - u2) + v2)))) := (((B.on.sub C.on).add (eX.mul c)).sub eY).of (by grind)
  have hd : Dv (d * ((b ^ 2 - u3 - u2) - u1) - ((-(b * ((b ^ 2 - u3 - u2) - u2) + v2)) - (v2 + a * (u1 - u2)))) := (((eZ.sub D.on).sub (eV'.mul d)).add A.on).of (by grind)
  have hn' : ¬ Dv (u3 - (a ^ 2 - u1 - u2)) := fun k => hn ((k.sub eX).of (by grind))
  have hm' : ¬ Dv ((b ^ 2 - u3 - u2) - u1) := fun k => hm ((k.add eV').of (by grind))
  exact SameC.to (coc_data r1 r3 hc hd hn' hm') (eX.neg.of (by grind)) (eY.neg.of (by grind)) (eV'.neg.of (by grind)) (eZ.neg.of (by grind))

theorem same_tan (w2 : Wc u2 v2) (wS : Wc e f) (A : Ad a u1 v1 u2 v2 e f) (B : Ad b u2 v2 u3 v3 g h) (C : Ad c e f u3 v3 k1 k2) (D : Ad d u1 v1 g h k3 k4) (hn : Dv (u3 - e)) (hm : ¬ Dv (g - u1)) (hw : ¬ Dv (e - u2)) (hf : ¬ Dv f) : SameC a c e f b d g h := by
  have hv : Dv (v3 - f) := (C.on.add (hn.mul c)).of (by grind)
  have h1 : Dv (-f - (v2 + a * (e - u2))) := (A.turn.add A.on).neg.of (by grind)
  have h2 : Dv (f - (v2 + b * (e - u2))) := ((B.on.sub hv).add (hn.mul b)).of (by grind)
  have e1 : Dv (u1 - (a ^ 2 - u2 - e)) := A.third.of (by grind)
  have eV : Dv (g - (b ^ 2 - u2 - e)) := (B.third.sub hn).of (by grind)
  have eZ : Dv (h - (-(v2 + b * ((b ^ 2 - u2 - e) - u2)))) := (B.turn.sub (eV.mul b)).of (by grind)
  have hm' : ¬ Dv ((b ^ 2 - u2 - e) - (a ^ 2 - u2 - e)) := fun k => hm (((k.add eV).sub e1).of (by grind))
  have hc : Dv (2 * c * f - (3 * e ^ 2 + 1)) := ((C.two.sub (C.third.mul (e + u3))).add (hn.mul (e + u3 - c ^ 2 + e))).of (by grind)
  have hd : Dv (d * ((b ^ 2 - u2 - e) - (a ^ 2 - u2 - e)) - ((-(v2 + b * ((b ^ 2 - u2 - e) - u2))) - (v2 + a * ((a ^ 2 - u2 - e) - u2)))) := ((((eZ.sub D.on).sub (eV.mul d)).add (e1.mul (d - a))).add A.on).of (by grind)
  exact SameC.to (coc_tan w2 wS h1 h2 hw hf hm' hc hd) (dv_zero.of (by grind)) (dv_zero.of (by grind)) (eV.neg.of (by grind)) (eZ.neg.of (by grind))

/-- What the lines make at a point, one order and the other. -/
theorem same_lines {X0 q : Int} (k : SameC a c e f b d g h) (wS : Wc e f) (wT : Wc g h) (hq : Dv (q ^ 2 + X0 ^ 3 + X0)) :
    Dv ((X0 - g) * ((a * (X0 - e) - f) * (c * (X0 - e) + f) - q ^ 2) - (X0 - e) * ((b * (X0 - g) - h) * (d * (X0 - g) + h) - q ^ 2)) ∧
    Dv ((X0 - g) * ((a * (X0 - e) - f) + (c * (X0 - e) + f)) - (X0 - e) * ((b * (X0 - g) - h) + (d * (X0 - g) + h))) := by
  have t1 := line_two (a := a) (c := c) wS hq
  have t2 := line_two (a := b) (c := d) wT hq
  obtain ⟨al, be, ga⟩ := k
  exact ⟨(((t1.mul (X0 - g)).sub (t2.mul (X0 - e))).add (((be.mul X0).add ga).mul ((X0 - g) * (X0 - e)))).of (by grind), (al.mul ((X0 - g) * (X0 - e))).of (by grind)⟩

end
end Go.Proofs.YthnahalboomkoaaGreat

/-
  A number two by two to 12107 is the number turned.
-/
namespace Go.Proofs.YthnahalboomkoaaGreat

def q2 (p : Nat × Nat) : Nat × Nat := (Nat.mod (Nat.mul (Nat.add p.1 p.2) (Nat.sub (Nat.add p.1 12107) p.2)) 12107, Nat.mod (Nat.mul (Nat.mul 2 p.1) p.2) 12107)
def o2 (c : Nat) (p : Nat × Nat) : Nat × Nat := (Nat.mod (Nat.add p.1 (Nat.mul (Nat.sub 12107 p.2) c)) 12107, Nat.mod (Nat.add (Nat.mul p.1 c) p.2) 12107)
def m2 (c : Nat) (p : Nat × Nat) : Nat × Nat := o2 c (q2 p)
/-- 1 and c, to 12107. -/
def frob (c : Nat) : Nat × Nat := m2 c (m2 c (q2 (m2 c (q2 (q2 (m2 c (q2 (m2 c (m2 c (m2 c (m2 c (q2 (1, c)))))))))))))

/-- A pair of numbers that are not below 0, as a number two by two. -/
def cst (p : Nat × Nat) : Int × Int := ((p.1 : Int), (p.2 : Int))

theorem q2_cst {p : Nat × Nat} (h : p.2 ≤ 12107) : cst (q2 p) = fp2 (gm (cst p) (cst p)) := by
  obtain ⟨u, v⟩ := p
  unfold cst q2 fp2 gm fp
  have e : (u : Int) * u - (v : Int) * v = ((u + v : Nat) : Int) * ((u + 12107 - v : Nat) : Int) + 12107 * (-((u : Int) + v)) := by
    have : ((u + 12107 - v : Nat) : Int) = (u : Int) + 12107 - v := by simp only at h; omega
    rw [this]; grind
  have e' : (u : Int) * v + (v : Int) * u = ((2 * u * v : Nat) : Int) := by
    simp; grind
  simp only
  rw [e, e']
  ext
  · show ((((u + v) * (u + 12107 - v)) % 12107 : Nat) : Int) = _
    simp
  · show (((2 * u * v) % 12107 : Nat) : Int) = _
    simp

theorem o2_cst {c : Nat} {p : Nat × Nat} (h : p.2 ≤ 12107) : cst (o2 c p) = fp2 (gm (cst p) (1, (c : Int))) := by
  obtain ⟨u, v⟩ := p
  unfold cst o2 fp2 gm fp
  have e : (u : Int) * 1 - (v : Int) * c = (u : Int) + ((12107 - v : Nat) : Int) * c + 12107 * (-(c : Int)) := by
    have : ((12107 - v : Nat) : Int) = (12107 : Int) - v := by simp only at h; omega
    rw [this]; grind
  simp only
  rw [e, Int.mul_one]
  ext
  · show (((u + (12107 - v) * c) % 12107 : Nat) : Int) = _
    simp
  · show (((u * c + v) % 12107 : Nat) : Int) = _
    simp

theorem cst_le {p : Nat × Nat} {x : Int × Int} (h : cst p = fp2 x) : p.2 ≤ 12107 := by
  have h1 : ((p.2 : Nat) : Int) = fp x.2 := congrArg Prod.snd h
  have := fp_lt x.2
  omega

theorem q2_gp {c k : Nat} {p : Nat × Nat} (h : cst p = fp2 (gp (1, (c : Int)) k)) : cst (q2 p) = fp2 (gp (1, (c : Int)) (2 * k)) := by
  rw [q2_cst (cst_le h), h, fp2_gm, ← gp_add]
  congr 2; omega

theorem o2_gp {c k : Nat} {p : Nat × Nat} (h : cst p = fp2 (gp (1, (c : Int)) k)) : cst (o2 c p) = fp2 (gp (1, (c : Int)) (k + 1)) := by
  rw [o2_cst (cst_le h), h, fp2_left]
  rfl

theorem m2_gp {c k : Nat} {p : Nat × Nat} (h : cst p = fp2 (gp (1, (c : Int)) k)) : cst (m2 c p) = fp2 (gp (1, (c : Int)) (2 * k + 1)) := o2_gp (q2_gp h)

/-- The field's size, by name. -/
def eP : Nat := 12107
theorem eP_eq : eP = eF + 1 := rfl

theorem frob_gp {c : Nat} (h : c < 12107) : cst (frob c) = fp2 (gp (1, (c : Int)) eP) := by
  have h0 : cst (1, c) = fp2 (gp (1, (c : Int)) 1) := by
    rw [gp_one]; unfold cst fp2; simp only
    rw [fp_small (by omega) (by omega), fp_small (by omega) (by omega)]; rfl
  have h1 := m2_gp (m2_gp (m2_gp (m2_gp (q2_gp h0))))
  have h2 := q2_gp (q2_gp (m2_gp (q2_gp h1)))
  have h3 := m2_gp (m2_gp (q2_gp (m2_gp h2)))
  generalize he : 2 * (2 * (2 * (2 * (2 * (2 * (2 * (2 * (2 * (2 * (2 * (2 * (2 * 1) + 1) + 1) + 1) + 1)) + 1))) + 1)) + 1) + 1 = k at h3
  have hk : k = eP := by rw [← he]; rfl
  rw [← hk]; exact h3

def fits (c : Nat) : Bool := Nat.beq (frob c).1 1 && Nat.beq (frob c).2 (Nat.mod (Nat.sub 12107 c) 12107)
def fitsAll : Nat → Nat → Bool
  | 0, lo => fits lo
  | k + 1, lo => fitsAll k lo && fitsAll k (Nat.add lo (Nat.pow 2 k))

theorem fits_all : ∀ (k lo : Nat), fitsAll k lo = true → ∀ a, lo ≤ a → a < lo + 2 ^ k → fits a = true
  | 0, lo, h, a, h0, h1 => by
    have : a = lo := by simp at h1; omega
    rw [this]; exact h
  | k + 1, lo, h, a, h0, h1 => by
    simp only [fitsAll, Bool.and_eq_true] at h
    by_cases hc : a < lo + 2 ^ k
    · exact fits_all k lo h.1 a h0 hc
    · refine fits_all k (lo + 2 ^ k) h.2 a (by omega) ?_
      rw [Nat.pow_succ] at h1; omega

set_option maxRecDepth 100000 in
theorem fits_low : fitsAll 13 0 = true := by decide +kernel
set_option maxRecDepth 100000 in
theorem fits_high : fitsAll 13 3915 = true := by decide +kernel

theorem frob_one {c : Nat} (h : c < 12107) : fp2 (gp (1, (c : Int)) eP) = (1, fp (0 - (c : Int))) := by
  have g : fits c = true := by
    by_cases hc : c < 8192
    · exact fits_all 13 0 fits_low c (by omega) (by omega)
    · exact fits_all 13 3915 fits_high c (by omega) (by omega)
  unfold fits at g
  simp only [Bool.and_eq_true, Nat.beq_eq] at g
  rw [← frob_gp h]
  unfold cst
  rw [g.1, g.2]
  ext
  · rfl
  · show (((12107 - c) % 12107 : Nat) : Int) = _
    unfold fp; omega

/-- A number two by two to 12107 is the number turned. -/
theorem tp_frob {x : Int × Int} (h : In2 x) (h0 : x.1 ≠ 0) : tp x 12107 = tt x := by
  obtain ⟨a, b⟩ := x
  obtain ⟨⟨a0, a1⟩, b0, b1⟩ := h
  simp only at a0 a1 b0 b1 h0
  obtain ⟨m, rfl⟩ : ∃ m : Nat, a = m := ⟨a.toNat, by omega⟩
  have hn := fpMul_inv (a := (m : Int)) (by omega) a1
  rw [fpMul_eq] at hn
  obtain ⟨n, hn'⟩ : ∃ n, n = fpPow (m : Int) 12105 := ⟨_, rfl⟩
  rw [← hn'] at hn
  obtain ⟨c, hc⟩ : ∃ c : Nat, (c : Int) = fp (b * n) := ⟨(fp (b * n)).toNat, by have := fp_nonneg (b * n); omega⟩
  have hcl : c < 12107 := by have := fp_lt (b * n); omega
  obtain ⟨k, hk⟩ := fp_rep (b * n)
  obtain ⟨l, hl⟩ := fp_rep ((m : Int) * n)
  have hx : ((m : Int), b) = fp2 (gm ((m : Int), 0) (1, (c : Int))) := by
    unfold fp2 gm
    ext
    · simp only [Int.mul_one, Int.zero_mul, Int.sub_zero]; exact (fp_small a0 a1).symm
    · simp only [Int.zero_mul, Int.add_zero]
      rw [hc, hk]
      refine ((fp_to (y := b) (-l * b + m * k) ?_).trans (fp_small b0 b1)).symm
      rw [hl] at hn
      grind
  have hp : fp ((m : Int) ^ eP) = (m : Int) := by
    have e : (m : Int) ^ eP = ((m ^ eP : Nat) : Int) := by simp
    rw [e, eP_eq, Nat.pow_succ]
    have f := fermat (a := m) (by omega) (by omega)
    unfold fp
    have : (m ^ eF * m) % 12107 = m := by rw [Nat.mul_mod, f, Nat.one_mul, Nat.mod_mod, Nat.mod_eq_of_lt (by omega)]
    omega
  have ht : tp ((m : Int), b) 12107 = fp2 (gp ((m : Int), b) eP) := tp_nat _ eP
  have hg : fp2 ((m : Int) ^ eP, 0) = ((m : Int), 0) := by unfold fp2; simp only; rw [hp]; rfl
  rw [ht, hx, fp2_gp, gp_gm, gp_plain, ← fp2_gm, frob_one hcl, hg]
  rw [← hx]
  unfold fp2 gm tt
  ext
  · simp only [Int.mul_one, Int.zero_mul, Int.sub_zero]; exact fp_small a0 a1
  · simp only [Int.zero_mul, Int.add_zero]
    obtain ⟨j, hj⟩ := fp_rep (0 - (c : Int))
    rw [hj, hc, hk]
    refine fp_to (l * b - m * k + m * j) ?_
    rw [hl] at hn
    grind

end Go.Proofs.YthnahalboomkoaaGreat

/-
  Powers of numbers two by two that leave numbers of the field out; products of lines along a group.
-/
namespace Go.Proofs.YthnahalboomkoaaGreat

theorem gp_gp (x : Int × Int) (m : Nat) : ∀ n, gp (gp x m) n = gp x (m * n)
  | 0 => rfl
  | n + 1 => by
    show gm (gp (gp x m) n) (gp x m) = _
    rw [gp_gp x m n, Nat.mul_succ, gp_add]

theorem tm_assoc (x y z : Int × Int) : tm (tm x y) z = tm x (tm y z) := by
  unfold tm; rw [fp2_left, fp2_right, gm_assoc]
theorem tm_swap (x y z : Int × Int) : tm (tm x y) z = tm (tm x z) y := by
  rw [tm_assoc, tm_comm z y, ← tm_assoc]
theorem in2_tm (x y : Int × Int) : In2 (tm x y) := in2_fp2 _
theorem tm_one {x : Int × Int} (h : In2 x) : tm x (1, 0) = x := by unfold tm; rw [gm_one, fp2_in h]
theorem one_tm {x : Int × Int} (h : In2 x) : tm (1, 0) x = x := by rw [tm_comm]; exact tm_one h
theorem in2_one : In2 (1, 0) := ⟨⟨by decide, by decide⟩, by decide, by decide⟩

/-- A power in the field. -/
def pw (x : Int × Int) (n : Nat) : Int × Int := fp2 (gp x n)
theorem in2_pw (x : Int × Int) (n : Nat) : In2 (pw x n) := in2_fp2 _
theorem pw_zero (x : Int × Int) : pw x 0 = (1, 0) := rfl
theorem pw_add (x : Int × Int) (m n : Nat) : pw x (m + n) = tm (pw x m) (pw x n) := by unfold pw tm; rw [fp2_gm, gp_add]
theorem pw_one {x : Int × Int} (h : In2 x) : pw x 1 = x := by unfold pw; rw [gp_one, fp2_in h]
theorem pw_succ {x : Int × Int} (h : In2 x) (n : Nat) : pw x (n + 1) = tm (pw x n) x := by rw [pw_add, pw_one h]
theorem pw_pw (x : Int × Int) (m n : Nat) : pw (pw x m) n = pw x (m * n) := by unfold pw; rw [fp2_gp, gp_gp]
theorem pw_tm (x y : Int × Int) (n : Nat) : pw (tm x y) n = tm (pw x n) (pw y n) := by unfold pw tm; rw [fp2_gp, gp_gm, fp2_gm]
theorem pw_ones (n : Nat) : pw (1, 0) n = (1, 0) := by unfold pw; rw [gp_plain, Int.one_pow]; rfl
theorem tp_pw (x : Int × Int) (n : Nat) : tp x (n : Int) = pw x n := tp_nat x n

/-- Turned by 12107, whatever the number. -/
theorem frob_all {x : Int × Int} (h : In2 x) : pw x eP = tt x := by
  by_cases h0 : x.1 = 0
  · obtain ⟨a, b⟩ := x
    simp only at h0
    subst h0
    obtain ⟨m, rfl⟩ : ∃ m : Nat, b = m := ⟨b.toNat, by have := h.2.1; simp only at this; omega⟩
    have hm : m < 12107 := by have := h.2.2; simp only at this; omega
    have hx : ((0 : Int), (m : Int)) = gm ((m : Int), 0) (0, 1) := by unfold gm; simp
    have hi : gp ((0 : Int), (1 : Int)) eP = (0, -1) := by
      have h4 : gp ((0 : Int), (1 : Int)) 4 = (1, 0) := by decide
      have he : eP = 4 * 3026 + 3 := rfl
      have h1 : gp ((1 : Int), (0 : Int)) 3026 = (1, 0) := by rw [gp_plain, Int.one_pow]
      rw [he, gp_add, ← gp_gp, h4, h1, one_gm]
      decide
    unfold pw
    rw [hx, gp_gm, gp_plain, hi]
    have hp : fp ((m : Int) ^ eP) = (m : Int) := by
      rcases Nat.eq_zero_or_pos m with e | e
      · subst e
        rw [show ((0 : Nat) : Int) = 0 from rfl, Int.zero_pow (by decide)]; rfl
      · have e1 : (m : Int) ^ eP = ((m ^ eP : Nat) : Int) := by simp
        rw [e1, eP_eq, Nat.pow_succ]
        have f := fermat (a := m) e hm
        have : (m ^ eF * m) % 12107 = m := by rw [Nat.mul_mod, f, Nat.one_mul, Nat.mod_mod, Nat.mod_eq_of_lt hm]
        unfold fp
        omega
    obtain ⟨k, hk⟩ := fp_rep ((m : Int) ^ eP)
    generalize (m : Int) ^ eP = z at hp hk
    rw [hp] at hk
    unfold fp2 gm tt
    ext
    · simp; rfl
    · simp only
      exact fp_to k (by grind)
  · have := tp_frob h h0
    rw [show (12107 : Int) = ((eP : Nat) : Int) from rfl, tp_pw] at this
    exact this

/-- What leaves numbers of the field out. -/
def ch (z : Int × Int) : Int × Int := pw z eF
theorem in2_ch (z : Int × Int) : In2 (ch z) := in2_fp2 _
theorem ch_gm (z w : Int × Int) : ch (gm z w) = tm (ch z) (ch w) := by unfold ch pw tm; rw [gp_gm, fp2_gm]
theorem ch_fp2 (z : Int × Int) : ch (fp2 z) = ch z := by unfold ch pw; rw [fp2_gp]
theorem ch_tm (z w : Int × Int) : ch (tm z w) = tm (ch z) (ch w) := by unfold tm; rw [ch_fp2]; exact ch_gm z w
theorem ch_one : ch (1, 0) = (1, 0) := pw_ones _
theorem ch_plain {c : Int} (h : ¬ Dv c) : ch (c, 0) = (1, 0) := by
  rw [← ch_fp2]
  obtain ⟨n, hn⟩ : ∃ n : Nat, (n : Int) = fp c := ⟨(fp c).toNat, by have := fp_nonneg c; omega⟩
  have h0 : 0 < n := by
    rcases Nat.eq_zero_or_pos n with e | e
    · exact absurd (dv_fp.2 (by rw [← hn, e]; rfl)) h
    · exact e
  have hl : n < 12107 := by have := fp_lt c; omega
  unfold ch pw fp2
  simp only
  rw [← hn, show fp (0 : Int) = 0 from rfl, gp_plain]
  have f := fermat h0 hl
  have e1 : (n : Int) ^ eF = ((n ^ eF : Nat) : Int) := by simp
  simp only
  rw [e1]
  ext
  · show fp ((n ^ eF : Nat) : Int) = 1
    unfold fp; omega
  · rfl

/-- Alike but for numbers of the field. -/
theorem ch_alike {z w : Int × Int} {c d : Int} (hc : ¬ Dv c) (hd : ¬ Dv d) (h1 : Dv (c * z.1 - d * w.1)) (h2 : Dv (c * z.2 - d * w.2)) : ch z = ch w := by
  have e : fp2 (gm (c, 0) z) = fp2 (gm (d, 0) w) := by
    unfold fp2 gm
    ext
    · exact dv_eq (h1.of (by simp))
    · exact dv_eq (h2.of (by simp))
  have e2 : ch (gm (c, 0) z) = ch (gm (d, 0) w) := by rw [← ch_fp2, e, ch_fp2]
  rw [ch_gm, ch_gm, ch_plain hc, ch_plain hd, one_tm (in2_ch z), one_tm (in2_ch w)] at e2
  exact e2

theorem pw_turn {z : Int × Int} (h : In2 z) : pw z (eP + 1) = (fp (z.1 * z.1 + z.2 * z.2), 0) := by
  rw [pw_add, pw_one h, frob_all h, tm_comm, tm_turned]

/-- What is left is one of 12108. -/
theorem ch_order {z : Int × Int} (h : In2 z) (h0 : z ≠ (0, 0)) : pw (ch z) (eP + 1) = (1, 0) := by
  unfold ch
  rw [pw_pw, Nat.mul_comm, ← pw_pw, pw_turn h]
  have hn : ¬ Dv (fp (z.1 * z.1 + z.2 * z.2)) := fun k => by
    have := norm_pos h h0
    have := dv_fp.1 k
    rw [fp_fp] at this
    omega
  exact ch_plain hn

/-- What the specification makes of Miller's number. -/
theorem ch_end {z : Int × Int} (h : In2 z) (h0 : z ≠ (0, 0)) : tm (tt z) (ti z) = ch z := by
  rw [← frob_all h, eP_eq, pw_succ h, tm_assoc, tm_inv h h0, tm_one (in2_pw _ _)]
  rfl

/-- Lines along a group: what they make one by one. -/
def psi (L : Nat → Nat → Int × Int) : Nat → Int × Int
  | 0 => (1, 0)
  | n + 1 => tm (psi L n) (L n 1)

section
variable {L : Nat → Nat → Int × Int}
theorem in2_psi : ∀ n, In2 (psi L n)
  | 0 => in2_one
  | _ + 1 => in2_fp2 _

theorem psi_split (h0 : ∀ i, L i 0 = (1, 0)) (hC : ∀ i j, tm (L i j) (L (i + j) 1) = tm (L j 1) (L i (j + 1))) (i : Nat) : ∀ j, tm (L i j) (tm (psi L i) (psi L j)) = psi L (i + j)
  | 0 => by
    rw [h0]
    show tm (1, 0) (tm (psi L i) (1, 0)) = psi L i
    rw [tm_one (in2_psi i), one_tm (in2_psi i)]
  | j + 1 => by
    show tm (L i (j + 1)) (tm (psi L i) (tm (psi L j) (L j 1))) = tm (psi L (i + j)) (L (i + j) 1)
    rw [← psi_split h0 hC i j, ← tm_assoc (psi L i), ← tm_assoc (L i (j + 1)), tm_swap (L i (j + 1)), tm_swap (L i j), hC, tm_comm (L j 1)]

/-- Miller's steps: twice, and one more. -/
theorem mill_dbl (h0 : ∀ i, L i 0 = (1, 0)) (hC : ∀ i j, tm (L i j) (L (i + j) 1) = tm (L j 1) (L i (j + 1))) {f : Int × Int} {i n : Nat} (h : tm f (pw (psi L i) n) = psi L (n * i)) :
    tm (tm (tm f f) (L (n * i) (n * i))) (pw (psi L i) (2 * n)) = psi L (2 * n * i) := by
  have e : 2 * n * i = n * i + n * i := by rw [Nat.mul_assoc]; omega
  rw [e, ← psi_split h0 hC (n * i) (n * i), ← h, show 2 * n = n + n by omega, pw_add]
  generalize L (n * i) (n * i) = g
  generalize pw (psi L i) n = q
  rw [tm_comm g, tm_assoc g]
  congr 1
  rw [← tm_assoc (tm f f) q q, ← tm_assoc (tm f q) f q, tm_swap f q f]
theorem mill_add (h0 : ∀ i, L i 0 = (1, 0)) (hC : ∀ i j, tm (L i j) (L (i + j) 1) = tm (L j 1) (L i (j + 1))) {f : Int × Int} {i n : Nat} (h : tm f (pw (psi L i) n) = psi L (n * i)) :
    tm (tm f (L (n * i) i)) (pw (psi L i) (n + 1)) = psi L ((n + 1) * i) := by
  have e : (n + 1) * i = n * i + i := Nat.succ_mul n i
  rw [e, ← psi_split h0 hC (n * i) i, ← h, pw_succ (in2_psi i)]
  generalize L (n * i) i = g
  generalize pw (psi L i) n = q
  generalize psi L i = p
  rw [tm_comm g f, tm_assoc g f, ← tm_assoc f q p]

/-- Round by round. -/
theorem psi_round {r : Nat} (hP : ∀ n, L (n + r) 1 = L n 1) : ∀ n, psi L (n + r) = tm (psi L n) (psi L r)
  | 0 => by rw [Nat.zero_add]; exact (one_tm (in2_psi r)).symm
  | n + 1 => by
    rw [show n + 1 + r = (n + r) + 1 by omega]
    show tm (psi L (n + r)) (L (n + r) 1) = tm (tm (psi L n) (L n 1)) (psi L r)
    rw [psi_round hP n, hP, tm_swap]
theorem psi_rounds {r : Nat} (hP : ∀ n, L (n + r) 1 = L n 1) : ∀ i, psi L (r * i) = pw (psi L r) i
  | 0 => rfl
  | i + 1 => by rw [Nat.mul_succ, psi_round hP, psi_rounds hP i, pw_succ (in2_psi r)]
theorem psi_order {N : Nat} (hU : ∀ n, pw (L n 1) N = (1, 0)) : ∀ n, pw (psi L n) N = (1, 0)
  | 0 => pw_ones N
  | n + 1 => by
    show pw (tm (psi L n) (L n 1)) N = _
    rw [pw_tm, psi_order hU n, hU, tm_one in2_one]

/-- **What a point has so often, its pair has so often.** -/
theorem mill_end {r k : Nat} (hP : ∀ n, L (n + r) 1 = L n 1) (hU : ∀ n, pw (L n 1) (r * k) = (1, 0)) {f : Int × Int} {i : Nat} (h : tm f (pw (psi L i) r) = psi L (r * i)) :
    pw f k = pw (pw (psi L r) k) i := by
  have e : pw (tm f (pw (psi L i) r)) k = pw (pw (psi L r) i) k := by rw [h, psi_rounds hP]
  rw [pw_tm, pw_pw, psi_order hU, tm_one (in2_pw _ _)] at e
  rw [e, pw_pw, pw_pw, Nat.mul_comm]
end

end Go.Proofs.YthnahalboomkoaaGreat

/-
  Lines through points of a group without points of order two: what they make at a point hangs on no order of putting points together.
-/
namespace Go.Proofs.YthnahalboomkoaaGreat

theorem ad_reflect {b u2 v2 u3 v3 g h : Int} (k : Ad b u2 v2 u3 v3 g h) : Ad (-b) u2 (-v2) g h u3 v3 :=
  ⟨k.turn.of (by grind), k.third.of (by grind), k.on.of (by grind), k.two.of (by grind)⟩
theorem ad_cyc {a u1 v1 u2 v2 e f : Int} (k : Ad a u1 v1 u2 v2 e f) : Ad a u2 v2 e (-f) u1 (-v1) :=
  ⟨((k.turn.add k.on).neg).of (by grind), k.third.of (by grind), k.on.of (by grind), (k.two.add (k.on.mul (2 * a))).of (by grind)⟩
theorem ad_to {l u1 v1 u2 v2 u3 v3 w1 w2 : Int} (k : Ad l u1 v1 u2 v2 u3 v3) (h1 : Dv (v1 - w1)) (h2 : Dv (v2 - w2)) : Ad l u1 w1 u2 w2 u3 v3 :=
  ⟨((k.on.add h1).sub h2).of (by grind), k.third, (k.turn.sub h1).of (by grind), (k.two.sub (h1.mul (2 * l))).of (by grind)⟩
theorem ad_uniq {l l' u1 v1 u2 v2 u3 v3 u4 v4 : Int} (k : Ad l u1 v1 u2 v2 u3 v3) (k' : Ad l' u1 v1 u2 v2 u4 v4) (hv : ¬ Dv v1) : Dv (l - l') := by
  by_cases hu : Dv (u2 - u1)
  · have t1 : Dv (2 * l * v1 - (3 * u1 ^ 2 + 1)) := ((k.two.sub (k.third.mul (u1 + u2))).add (hu.mul (2 * u1 + u2 - l ^ 2))).of (by grind)
    have t2 : Dv (2 * l' * v1 - (3 * u1 ^ 2 + 1)) := ((k'.two.sub (k'.third.mul (u1 + u2))).add (hu.mul (2 * u1 + u2 - l' ^ 2))).of (by grind)
    have t3 : Dv (2 * (v1 * (l - l'))) := (t1.sub t2).of (by grind)
    exact dv_prime (dv_prime t3 dv_two) hv
  · have t : Dv ((u2 - u1) * (l - l')) := (k'.on.sub k.on).of (by grind)
    exact dv_prime t hu

/-- The slope of two points' line, where it has one. -/
def pSl (P Q : Pt) : Option Int :=
  if P.1 ≠ Q.1 then some (slopeC P.1 P.2.1 Q.1 Q.2.1) else if fpAdd P.2.1 Q.2.1 = 0 then none else some (slopeT P.1 P.2.1)
/-- The line at a point, of right points. -/
def pLine (P Q R : Pt) : Int × Int :=
  if P.2.2 = true then (1, 0) else if Q.2.2 = true then (1, 0) else if R.2.2 = true then (1, 0)
  else match pSl P Q with
    | none => (1, 0)
    | some l => (fpSub (fpSub 0 P.2.1) (fpMul l (fpSub (fpSub 0 R.1) P.1)), R.2.1)

/-- A right point that is no Zero. -/
def Aff (P : Pt) : Prop := P.2.2 = false ∧ (0 ≤ P.1 ∧ P.1 < 12107) ∧ (0 ≤ P.2.1 ∧ P.2.1 < 12107) ∧ Wc P.1 P.2.1
theorem aff_ok {P : Pt} (h : Aff P) : POk P := .inr h
theorem aff_of {P : Pt} (h : POk P) (h0 : P ≠ pZ) : Aff P := h.resolve_left h0
theorem aff_ne {P : Pt} (h : Aff P) : P ≠ pZ := fun e => by have := h.1; rw [e] at this; cases this

theorem sl_cases {P Q : Pt} (hP : Aff P) (hQ : Aff Q) : (pSl P Q = none ∧ pAdd P Q = pZ) ∨ ∃ l, pSl P Q = some l ∧ Aff (pAdd P Q) ∧ Ad l P.1 P.2.1 Q.1 Q.2.1 (pAdd P Q).1 (pAdd P Q).2.1 := by
  obtain ⟨u1, v1, z1⟩ := P
  obtain ⟨u2, v2, z2⟩ := Q
  obtain ⟨p0, pa, pb, pw⟩ := hP
  obtain ⟨q0, qa, qb, qw⟩ := hQ
  simp only at p0 pa pb pw q0 qa qb qw
  subst p0 q0
  have third : ∀ l, (Dv (u1 * u2 + (u1 + u2) * (l ^ 2 - u1 - u2) - 1 + 2 * l * (v1 - l * u1)) ∧ Dv (u1 * u2 * (l ^ 2 - u1 - u2) - (v1 - l * u1) ^ 2)) → Dv (v2 - (v1 + l * (u2 - u1))) →
      Aff (pThird u1 v1 u2 l) ∧ Ad l u1 v1 u2 v2 (pThird u1 v1 u2 l).1 (pThird u1 v1 u2 l).2.1 := by
    intro l h on
    have ht := dv_third (u1 := u1) (v1 := v1) (u2 := u2) (l := l)
    have hl := third_line pw qw (on.of (by grind)) h
    refine ⟨aff_of hl.1 (fun e => by have : (pThird u1 v1 u2 l).2.2 = true := by rw [e]; rfl
                                     cases this), on, ht.1, ?_, ?_⟩
    · show Dv (thirdY u1 v1 l (thirdX u1 u2 l) + (v1 + l * (thirdX u1 u2 l - u1)))
      exact (ht.2.add (ht.1.mul l)).of (by grind)
    · show Dv (u1 * u2 + (u1 + u2) * thirdX u1 u2 l - (1 - 2 * l * (v1 - l * u1)))
      exact (h.1.add (ht.1.mul (u1 + u2))).of (by grind)
  by_cases hu : u1 = u2
  · subst hu
    by_cases hs : fpAdd v1 v2 = 0
    · left
      unfold pSl pAdd
      simp only [ne_eq, not_true_eq_false, if_false, if_pos hs, Bool.false_eq_true, and_self]
    · right
      have e : pAdd (u1, v1, false) (u1, v2, false) = pThird u1 v1 u1 (slopeT u1 v1) := by
        unfold pAdd
        rw [if_neg Bool.false_ne_true, if_neg Bool.false_ne_true, if_neg (fun h => h rfl), if_neg hs]
      have hv : ¬ Dv (v1 + v2) := fun k => hs (by
        have := dv_eq ((dv_add v1 v2).add k |>.of (by grind : fpAdd v1 v2 - 0 = _))
        rw [show fp (0 : Int) = 0 from rfl] at this
        unfold fpAdd at this ⊢
        rw [fp_fp] at this
        exact this)
      have hvv : Dv (v1 - v2) := dv_prime (a := v1 + v2) ((pw.sub qw).of (by grind)) hv
      have ev : v1 = v2 := small_eq pb.1 pb.2 qb.1 qb.2 hvv
      subst ev
      have h2 : ¬ Dv (2 * v1) := fun k => hv (k.of (by grind))
      have hl := dv_slopeT (u := u1) h2
      refine ⟨slopeT u1 v1, ?_, ?_⟩
      · unfold pSl
        simp only [ne_eq, not_true_eq_false, if_false, if_neg hs]
      · rw [e]
        exact third _ (tangent pw hl) (dv_zero.of (by grind))
  · right
    have e : pAdd (u1, v1, false) (u2, v2, false) = pThird u1 v1 u2 (slopeC u1 v1 u2 v2) := by
      unfold pAdd
      rw [if_neg Bool.false_ne_true, if_neg Bool.false_ne_true, if_pos hu]
    have hw : ¬ Dv (u2 - u1) := fun k => hu (small_eq pa.1 pa.2 qa.1 qa.2 (k.neg.of (by grind)))
    have hl := dv_slopeC (v1 := v1) (v2 := v2) hw
    refine ⟨slopeC u1 v1 u2 v2, ?_, ?_⟩
    · unfold pSl
      rw [if_pos hu]
    · rw [e]
      exact third _ (chord pw qw hw hl) (hl.neg.of (by grind))

theorem line_zero_left (Q R : Pt) : pLine pZ Q R = (1, 0) := rfl
theorem line_zero_right (P R : Pt) : pLine P pZ R = (1, 0) := by
  unfold pLine
  split
  · rfl
  · rw [if_pos (show pZ.2.2 = true from rfl)]
theorem line_none {P Q R : Pt} (h : pSl P Q = none) : pLine P Q R = (1, 0) := by
  unfold pLine
  split
  · rfl
  · split
    · rfl
    · split
      · rfl
      · rw [h]
theorem line_some {P Q R : Pt} {l : Int} (hP : Aff P) (hQ : Aff Q) (hR : Aff R) (h : pSl P Q = some l) : Dv ((pLine P Q R).1 + (P.2.1 + l * (-R.1 - P.1))) ∧ (pLine P Q R).2 = R.2.1 := by
  have e : pLine P Q R = (fpSub (fpSub 0 P.2.1) (fpMul l (fpSub (fpSub 0 R.1) P.1)), R.2.1) := by
    unfold pLine
    rw [if_neg (by rw [hP.1]; exact Bool.false_ne_true), if_neg (by rw [hQ.1]; exact Bool.false_ne_true), if_neg (by rw [hR.1]; exact Bool.false_ne_true), h]
  rw [e]
  refine ⟨?_, rfl⟩
  have h1 := dv_sub 0 P.2.1
  have h2 := dv_sub 0 R.1
  have h3 := dv_sub (fpSub 0 R.1) P.1
  have h4 := dv_mul l (fpSub (fpSub 0 R.1) P.1)
  have h5 := dv_sub (fpSub 0 P.2.1) (fpMul l (fpSub (fpSub 0 R.1) P.1))
  show Dv (fpSub (fpSub 0 P.2.1) (fpMul l (fpSub (fpSub 0 R.1) P.1)) + (P.2.1 + l * (-R.1 - P.1)))
  generalize fpSub (fpSub 0 P.2.1) (fpMul l (fpSub (fpSub 0 R.1) P.1)) = z at h5 ⊢
  generalize fpMul l (fpSub (fpSub 0 R.1) P.1) = y at h4 h5
  generalize fpSub (fpSub 0 R.1) P.1 = x at h3 h4
  generalize fpSub 0 R.1 = w at h2 h3
  generalize fpSub 0 P.2.1 = t at h1 h5
  exact ((((h5.add h1).sub h4).sub (h3.mul l)).sub (h2.mul l)).of (by grind)

/-- Two lines that are one. -/
theorem ch_same {z w : Int × Int} (h1 : Dv (z.1 - w.1)) (h2 : z.2 = w.2) : ch z = ch w :=
  ch_alike (c := 1) (d := 1) dv_one dv_one (h1.of (by grind)) (dv_zero.of (by rw [h2]; grind))
/-- Two lines the other way round of one another. -/
theorem ch_turn {z w : Int × Int} {q : Int} (hq : ¬ Dv q) (h1 : Dv (z.1 + w.1)) (hz : z.2 = q) (hw : w.2 = q) : tm (ch z) (ch w) = (1, 0) := by
  rw [← ch_gm]
  have hn : ¬ Dv (z.1 ^ 2 + q ^ 2) := fun k => hq (sumsq k).2
  rw [← ch_plain hn]
  refine ch_alike (c := 1) (d := -1) dv_one (fun k => dv_one (k.neg.of (by decide))) ?_ ?_
  · show Dv (1 * (z.1 * w.1 - z.2 * w.2) - -1 * (z.1 ^ 2 + q ^ 2))
    rw [hz, hw]
    exact (h1.mul z.1).of (by grind)
  · show Dv (1 * (z.1 * w.2 + z.2 * w.1) - -1 * 0)
    rw [hz, hw]
    exact (h1.mul q).of (by grind)

end Go.Proofs.YthnahalboomkoaaGreat

/-
  Lines through points of a group without points of order two: one order and the other.
-/
namespace Go.Proofs.YthnahalboomkoaaGreat

theorem padd_cancel {P Q R : Pt} (hP : POk P) (hQ : POk Q) (hR : POk R) (h : pAdd P Q = pAdd P R) : Q = R := by
  have e : ∀ {S : Pt}, POk S → pAdd (pNeg P) (pAdd P S) = S := fun {S} hS => by
    rw [← padd_assoc (pneg_ok hP) hP hS, padd_comm (pneg_ok hP) hP, padd_neg hP]; rfl
  rw [← e hQ, h, e hR]
theorem neg_of {P Q : Pt} (hP : POk P) (hQ : POk Q) (h : pAdd P Q = pZ) : Q = pNeg P := padd_cancel hP hQ (pneg_ok hP) (by rw [h, padd_neg hP])
theorem aff_neg {P : Pt} (h : Aff P) : pNeg P = (P.1, fpSub 0 P.2.1, false) := by unfold pNeg; rw [if_neg (by rw [h.1]; exact Bool.false_ne_true)]

theorem same_x {P Q : Pt} (hP : Aff P) (hQ : Aff Q) (h : Dv (P.1 - Q.1)) : P = Q ∨ pAdd P Q = pZ := by
  obtain ⟨u1, v1, z1⟩ := P
  obtain ⟨u2, v2, z2⟩ := Q
  obtain ⟨p0, pa, pb, pw⟩ := hP
  obtain ⟨q0, qa, qb, qw⟩ := hQ
  simp only at p0 pa pb pw q0 qa qb qw h
  subst p0 q0
  have e := small_eq pa.1 pa.2 qa.1 qa.2 h
  subst e
  by_cases hv : Dv (v1 + v2)
  · right
    unfold pAdd
    have hs : fpAdd v1 v2 = 0 := by rw [fpAdd_eq]; exact dv_fp.1 hv
    rw [if_neg Bool.false_ne_true, if_neg Bool.false_ne_true, if_neg (fun h => h rfl), if_pos hs]
  · left
    have hvv : Dv (v1 - v2) := dv_prime (a := v1 + v2) ((pw.sub qw).of (by grind)) hv
    rw [small_eq pb.1 pb.2 qb.1 qb.2 hvv]

theorem x_ne {S R : Pt} (hS : Aff S) (hR : Aff R) (hq : ¬ Dv R.2.1) : ¬ Dv (-R.1 - S.1) := fun k => by
  have hs := hS.2.2.2
  have hr := hR.2.2.2
  generalize S.1 = a at hs k
  generalize S.2.1 = b at hs
  generalize R.1 = c at hr k
  generalize R.2.1 = d at hr hq
  exact hq (sumsq (a := b) (b := d) (((hs.add hr).sub (k.mul (a ^ 2 - a * c + c ^ 2 + 1))).of (by grind))).2

/-- A group of right points, none of order two. -/
structure Grp (Gd : Pt → Prop) : Prop where
  ok : ∀ P, Gd P → POk P
  odd : ∀ P, Gd P → P ≠ pZ → ¬ Dv P.2.1
  add : ∀ P Q, Gd P → Gd Q → Gd (pAdd P Q)

theorem coc_pts {Gd : Pt → Prop} (G : Grp Gd) {P1 P2 P3 R : Pt} (g1 : Gd P1) (g2 : Gd P2) (g3 : Gd P3) (hR : Aff R) (hq : ¬ Dv R.2.1) :
    tm (ch (pLine P1 P2 R)) (ch (pLine (pAdd P1 P2) P3 R)) = tm (ch (pLine P2 P3 R)) (ch (pLine P1 (pAdd P2 P3) R)) := by
  have o1 := G.ok _ g1
  have o2 := G.ok _ g2
  have o3 := G.ok _ g3
  by_cases e1 : P1 = pZ
  · subst e1
    rw [zero_padd, line_zero_left, line_zero_left, tm_comm]
  by_cases e2 : P2 = pZ
  · subst e2
    rw [padd_zero o1, zero_padd, line_zero_right, line_zero_left]
  by_cases e3 : P3 = pZ
  · subst e3
    rw [padd_zero o2, line_zero_right, line_zero_right, tm_comm]
  have a1 := aff_of o1 e1
  have a2 := aff_of o2 e2
  have a3 := aff_of o3 e3
  have n1 := G.odd _ g1 e1
  have n2 := G.odd _ g2 e2
  have n3 := G.odd _ g3 e3
  have hqc : Dv (R.2.1 ^ 2 + (-R.1) ^ 3 + (-R.1)) := hR.2.2.2.of (by grind)
  rcases sl_cases a1 a2 with ⟨s12, z12⟩ | ⟨a, s12, f12, A⟩
  · -- the first two are one another's other way round
    rw [z12, line_none s12, line_zero_left]
    rcases sl_cases a2 a3 with ⟨s23, z23⟩ | ⟨b, s23, f23, B⟩
    · rw [z23, line_none s23, line_zero_right]
    · have hN : P1 = pNeg P2 := neg_of o2 o1 (by rw [padd_comm o2 o1]; exact z12)
      have tot : pAdd P1 (pAdd P2 P3) = P3 := by rw [← padd_assoc o1 o2 o3, z12]; rfl
      rcases sl_cases a1 f23 with ⟨_, z⟩ | ⟨d, sd, fd, D⟩
      · rw [tot] at z; exact absurd z e3
      · have h1 := line_some a2 a3 hR s23
        have h2 := line_some a1 f23 hR sd
        have u1 : P1.1 = P2.1 := by rw [hN, aff_neg a2]
        have v1 : Dv (P1.2.1 + P2.2.1) := by
          rw [hN, aff_neg a2]
          exact (dv_sub 0 P2.2.1).of (by simp only; grind)
        have B' := ad_to (ad_reflect B) (w1 := P1.2.1) (w2 := (pAdd P2 P3).2.1) (v1.neg.of (by grind)) (dv_zero.of (by grind))
        rw [← u1] at B'
        have hl := ad_uniq D B' n1
        rw [ch_one, tm_one in2_one]
        refine (ch_turn hq ?_ h1.2 h2.2).symm
        rw [u1] at h2
        exact (((h1.1.add h2.1).sub v1).sub (hl.mul (-R.1 - P2.1))).of (by grind)
  · rcases sl_cases a2 a3 with ⟨s23, z23⟩ | ⟨b, s23, f23, B⟩
    · -- the last two are
      rw [z23, line_none s23, line_zero_right]
      have hN : P3 = pNeg P2 := neg_of o2 o3 z23
      have tot : pAdd (pAdd P1 P2) P3 = P1 := by rw [padd_assoc o1 o2 o3, z23, padd_zero o1]
      rcases sl_cases f12 a3 with ⟨_, z⟩ | ⟨c, sc, fc, C⟩
      · rw [tot] at z; exact absurd z e1
      · have h1 := line_some a1 a2 hR s12
        have h2 := line_some f12 a3 hR sc
        have u3 : P3.1 = P2.1 := by rw [hN, aff_neg a2]
        have v3 : Dv (P3.2.1 + P2.2.1) := by
          rw [hN, aff_neg a2]
          exact (dv_sub 0 P2.2.1).of (by simp only; grind)
        have A' := (ad_to (ad_reflect A.swap) (w1 := P3.2.1) (w2 := (pAdd P1 P2).2.1) (v3.neg.of (by grind)) (dv_zero.of (by grind))).swap
        rw [← u3] at A'
        have n12 := G.odd _ (G.add _ _ g1 g2) (aff_ne f12)
        have hl := ad_uniq C A' n12
        rw [ch_one, tm_one in2_one]
        refine ch_turn hq ?_ h1.2 h2.2
        exact (((h1.1.add h2.1).sub A.turn).sub (hl.mul (-R.1 - (pAdd P1 P2).1))).of (by grind)
    · have n12 := G.odd _ (G.add _ _ g1 g2) (aff_ne f12)
      have n23 := G.odd _ (G.add _ _ g2 g3) (aff_ne f23)
      have h1 := line_some a1 a2 hR s12
      have h3 := line_some a2 a3 hR s23
      rcases sl_cases f12 a3 with ⟨sc, zc⟩ | ⟨c, sc, fc, C⟩
      · -- all three come to Zero
        have zd : pAdd P1 (pAdd P2 P3) = pZ := by rw [← padd_assoc o1 o2 o3]; exact zc
        have sd : pSl P1 (pAdd P2 P3) = none := by
          rcases sl_cases a1 f23 with ⟨sd, _⟩ | ⟨_, _, fd, _⟩
          · exact sd
          · exact absurd zd (aff_ne fd)
        rw [line_none sc, line_none sd, ch_one, tm_one (in2_ch _), tm_one (in2_ch _)]
        have hN : P3 = pNeg (pAdd P1 P2) := neg_of (aff_ok f12) o3 zc
        have u3 : P3.1 = (pAdd P1 P2).1 := by rw [hN, aff_neg f12]
        have v3 : Dv (P3.2.1 + (pAdd P1 P2).2.1) := by
          rw [hN, aff_neg f12]
          exact (dv_sub 0 (pAdd P1 P2).2.1).of (by simp only; grind)
        have A' := ad_to (ad_cyc A) (w1 := P2.2.1) (w2 := P3.2.1) (dv_zero.of (by grind)) (v3.neg.of (by grind))
        rw [← u3] at A'
        have hl := ad_uniq A' B n2
        refine ch_same ?_ (h1.2.trans h3.2.symm)
        exact (((h1.1.sub h3.1).add A.on).sub (hl.mul (-R.1 - P2.1))).of (by grind)
      · have tot : pAdd P1 (pAdd P2 P3) = pAdd (pAdd P1 P2) P3 := (padd_assoc o1 o2 o3).symm
        rcases sl_cases a1 f23 with ⟨_, zd⟩ | ⟨d, sd, fd, D⟩
        · rw [tot] at zd; exact absurd zd (aff_ne fc)
        · have h2 := line_some f12 a3 hR sc
          have h4 := line_some a1 f23 hR sd
          have hS : SameC a c (pAdd P1 P2).1 (pAdd P1 P2).2.1 b d (pAdd P2 P3).1 (pAdd P2 P3).2.1 := by
            by_cases hn : Dv (P3.1 - (pAdd P1 P2).1)
            · have p3 : P3 = pAdd P1 P2 := by
                rcases same_x a3 f12 hn with h | h
                · exact h
                · rw [padd_comm o3 (aff_ok f12)] at h; exact absurd h (aff_ne fc)
              have hw : ¬ Dv ((pAdd P1 P2).1 - P2.1) := fun k => by
                rcases same_x f12 a2 k with h | h
                · exact e1 (padd_cancel o2 o1 pz_ok (by rw [padd_comm o2 o1, h, padd_zero o2]))
                · rw [← p3, padd_comm o3 o2] at h; exact aff_ne f23 h
              have hm : ¬ Dv ((pAdd P2 P3).1 - P1.1) := fun k => by
                rcases same_x f23 a1 k with h | h
                · have hz : pAdd P2 P2 = pZ := by
                    refine padd_cancel o1 (padd_ok o2 o2) pz_ok ?_
                    rw [padd_zero o1, ← padd_assoc o1 o2 o2, ← p3, padd_comm o3 o2]; exact h
                  have hN : P2 = pNeg P2 := neg_of o2 o2 hz
                  have h5 : Dv (2 * P2.2.1) := by
                    have h6 : P2.2.1 = fpSub 0 P2.2.1 := by
                      have := congrArg (fun S : Pt => S.2.1) hN
                      rw [aff_neg a2] at this
                      exact this
                    have h7 := dv_sub 0 P2.2.1
                    rw [← h6] at h7
                    exact h7.of (by grind)
                  exact n2 (dv_prime h5 dv_two)
                · rw [padd_comm (aff_ok f23) o1, tot] at h; exact aff_ne fc h
              exact same_tan a2.2.2.2 f12.2.2.2 A B C D hn hm hw n12
            · by_cases hm : Dv ((pAdd P2 P3).1 - P1.1)
              · have p1 : P1 = pAdd P2 P3 := by
                  rcases same_x f23 a1 hm with h | h
                  · exact h.symm
                  · rw [padd_comm (aff_ok f23) o1, tot] at h; exact absurd h (aff_ne fc)
                have hw : ¬ Dv ((pAdd P2 P3).1 - P2.1) := fun k => by
                  rcases same_x f23 a2 k with h | h
                  · exact e3 (padd_cancel o2 o3 pz_ok (by rw [h, padd_zero o2]))
                  · rw [← p1] at h; exact aff_ne f12 h
                exact (same_tan a2.2.2.2 f23.2.2.2 B.swap A.swap D.swap C.swap (hm.neg.of (by grind)) (fun k => hn (k.neg.of (by grind))) hw n23).swap
              · exact same_gen A B C D hn hm
          have L := same_lines hS f12.2.2.2 f23.2.2.2 hqc
          rw [← ch_gm, ← ch_gm]
          have x12 := x_ne f12 hR hq
          have x23 := x_ne f23 hR hq
          refine ch_alike x23 x12 ?_ ?_
          · show Dv ((-R.1 - (pAdd P2 P3).1) * ((pLine P1 P2 R).1 * (pLine (pAdd P1 P2) P3 R).1 - (pLine P1 P2 R).2 * (pLine (pAdd P1 P2) P3 R).2) - (-R.1 - (pAdd P1 P2).1) * ((pLine P2 P3 R).1 * (pLine P1 (pAdd P2 P3) R).1 - (pLine P2 P3 R).2 * (pLine P1 (pAdd P2 P3) R).2))
            rw [h1.2, h2.2, h3.2, h4.2]
            have k1 : Dv ((pLine P1 P2 R).1 + (a * (-R.1 - (pAdd P1 P2).1) - (pAdd P1 P2).2.1)) := (h1.1.sub A.turn).of (by grind)
            have k2 : Dv ((pLine (pAdd P1 P2) P3 R).1 + (c * (-R.1 - (pAdd P1 P2).1) + (pAdd P1 P2).2.1)) := h2.1.of (by grind)
            have k3 : Dv ((pLine P2 P3 R).1 + (b * (-R.1 - (pAdd P2 P3).1) - (pAdd P2 P3).2.1)) := (h3.1.sub B.turn).of (by grind)
            have k4 : Dv ((pLine P1 (pAdd P2 P3) R).1 + (d * (-R.1 - (pAdd P2 P3).1) + (pAdd P2 P3).2.1)) := (h4.1.add D.on).of (by grind)
            have L1 := L.1
            clear L h1 h2 h3 h4 A B C D hS hqc x12 x23
            generalize (pLine P1 P2 R).1 = z1 at k1 ⊢
            generalize (pLine (pAdd P1 P2) P3 R).1 = z2 at k2 ⊢
            generalize (pLine P2 P3 R).1 = z3 at k3 ⊢
            generalize (pLine P1 (pAdd P2 P3) R).1 = z4 at k4 ⊢
            generalize a * (-R.1 - (pAdd P1 P2).1) - (pAdd P1 P2).2.1 = l1 at k1 L1
            generalize c * (-R.1 - (pAdd P1 P2).1) + (pAdd P1 P2).2.1 = l2 at k2 L1
            generalize b * (-R.1 - (pAdd P2 P3).1) - (pAdd P2 P3).2.1 = l3 at k3 L1
            generalize d * (-R.1 - (pAdd P2 P3).1) + (pAdd P2 P3).2.1 = l4 at k4 L1
            generalize -R.1 - (pAdd P2 P3).1 = X at L1 ⊢
            generalize -R.1 - (pAdd P1 P2).1 = Y at L1 ⊢
            exact ((L1.add (((k1.mul z2).sub (k2.mul l1)).mul X)).sub (((k3.mul z4).sub (k4.mul l3)).mul Y)).of (by grind)
          · show Dv ((-R.1 - (pAdd P2 P3).1) * ((pLine P1 P2 R).1 * (pLine (pAdd P1 P2) P3 R).2 + (pLine P1 P2 R).2 * (pLine (pAdd P1 P2) P3 R).1) - (-R.1 - (pAdd P1 P2).1) * ((pLine P2 P3 R).1 * (pLine P1 (pAdd P2 P3) R).2 + (pLine P2 P3 R).2 * (pLine P1 (pAdd P2 P3) R).1))
            rw [h1.2, h2.2, h3.2, h4.2]
            have k1 : Dv ((pLine P1 P2 R).1 + (a * (-R.1 - (pAdd P1 P2).1) - (pAdd P1 P2).2.1)) := (h1.1.sub A.turn).of (by grind)
            have k2 : Dv ((pLine (pAdd P1 P2) P3 R).1 + (c * (-R.1 - (pAdd P1 P2).1) + (pAdd P1 P2).2.1)) := h2.1.of (by grind)
            have k3 : Dv ((pLine P2 P3 R).1 + (b * (-R.1 - (pAdd P2 P3).1) - (pAdd P2 P3).2.1)) := (h3.1.sub B.turn).of (by grind)
            have k4 : Dv ((pLine P1 (pAdd P2 P3) R).1 + (d * (-R.1 - (pAdd P2 P3).1) + (pAdd P2 P3).2.1)) := (h4.1.add D.on).of (by grind)
            have L2 := L.2
            clear L h1 h2 h3 h4 A B C D hS hqc x12 x23
            generalize (pLine P1 P2 R).1 = z1 at k1 ⊢
            generalize (pLine (pAdd P1 P2) P3 R).1 = z2 at k2 ⊢
            generalize (pLine P2 P3 R).1 = z3 at k3 ⊢
            generalize (pLine P1 (pAdd P2 P3) R).1 = z4 at k4 ⊢
            generalize a * (-R.1 - (pAdd P1 P2).1) - (pAdd P1 P2).2.1 = l1 at k1 L2
            generalize c * (-R.1 - (pAdd P1 P2).1) + (pAdd P1 P2).2.1 = l2 at k2 L2
            generalize b * (-R.1 - (pAdd P2 P3).1) - (pAdd P2 P3).2.1 = l3 at k3 L2
            generalize d * (-R.1 - (pAdd P2 P3).1) + (pAdd P2 P3).2.1 = l4 at k4 L2
            generalize -R.1 - (pAdd P2 P3).1 = X at L2 ⊢
            generalize -R.1 - (pAdd P1 P2).1 = Y at L2 ⊢
            exact ((((k1.add k2).mul (X * R.2.1)).sub ((k3.add k4).mul (Y * R.2.1))).sub (L2.mul R.2.1)).of (by grind)

end Go.Proofs.YthnahalboomkoaaGreat

/-
  The group of the base point, Miller's number, and: what the first point has so often, the pair has so often.
-/
namespace Go.Proofs.YthnahalboomkoaaGreat

/-- A point of the base's group. -/
def InG (P : Pt) : Prop := ∃ k, P = pMul pB k
theorem ing_order {P : Pt} (h : InG P) : pMul P 1009 = pZ := by
  obtain ⟨k, rfl⟩ := h
  rw [pmul_mul pb_ok, Nat.mul_comm, ← pmul_mul pb_ok, b1009, pmul_zero]
theorem grp : Grp InG := by
  refine ⟨fun P ⟨k, hk⟩ => hk ▸ pmul_ok pb_ok k, fun P hP h0 hv => ?_, fun P Q ⟨k, hk⟩ ⟨j, hj⟩ => ⟨k + j, by rw [hk, hj, pmul_add pb_ok]⟩⟩
  have ok : POk P := by obtain ⟨k, hk⟩ := hP; exact hk ▸ pmul_ok pb_ok k
  have af := aff_of ok h0
  have h2 : pAdd P P = pZ := by
    unfold pAdd
    have hs : fpAdd P.2.1 P.2.1 = 0 := by rw [fpAdd_eq]; exact dv_fp.1 (hv.add hv)
    rw [if_neg (by rw [af.1]; exact Bool.false_ne_true), if_neg (by rw [af.1]; exact Bool.false_ne_true), if_neg (fun h => h rfl), if_pos hs]
  have h2' : pMul P 2 = pZ := by rw [pmul_add ok 1 1, pmul_one]; exact h2
  have h3 := ing_order hP
  rw [show 1009 = 2 * 504 + 1 from rfl, pmul_add ok, ← pmul_mul ok, h2', pmul_zero, pmul_one] at h3
  exact h0 h3

/-- Not 0 modulo the field's size in both parts. -/
def Nz (z : Int × Int) : Prop := ¬ (Dv z.1 ∧ Dv z.2)
theorem nz_ne {z : Int × Int} (h : Nz z) : z ≠ (0, 0) := fun e => h (by rw [e]; exact ⟨dv_zero, dv_zero⟩)
theorem nz_tm {z w : Int × Int} (hz : Nz z) (hw : Nz w) : Nz (tm z w) := by
  intro ⟨h1, h2⟩
  have e1 : Dv (z.1 * w.1 - z.2 * w.2) := (h1.sub (dv_fp_sub (z.1 * w.1 - z.2 * w.2))).of (by show _ = fp (z.1 * w.1 - z.2 * w.2) - _; grind)
  have e2 : Dv (z.1 * w.2 + z.2 * w.1) := (h2.sub (dv_fp_sub (z.1 * w.2 + z.2 * w.1))).of (by show _ = fp (z.1 * w.2 + z.2 * w.1) - _; grind)
  have e : Dv ((z.1 ^ 2 + z.2 ^ 2) * (w.1 ^ 2 + w.2 ^ 2)) := ((e1.mul (z.1 * w.1 - z.2 * w.2)).add (e2.mul (z.1 * w.2 + z.2 * w.1))).of (by grind)
  by_cases k : Dv (z.1 ^ 2 + z.2 ^ 2)
  · exact hz (sumsq k)
  · exact hw (sumsq (dv_prime e k))
theorem nz_one : Nz (1, 0) := fun h => dv_one h.1
theorem nz_line {P Q R : Pt} (hq : ¬ Dv R.2.1) : Nz (pLine P Q R) := by
  unfold pLine
  split
  · exact nz_one
  · split
    · exact nz_one
    · split
      · exact nz_one
      · split
        · exact nz_one
        · exact fun h => hq h.2
theorem in2_line {P Q R : Pt} (hR : Aff R) : In2 (pLine P Q R) := by
  unfold pLine
  split
  · exact in2_one
  · split
    · exact in2_one
    · split
      · exact in2_one
      · split
        · exact in2_one
        · exact ⟨⟨fp_nonneg _, fp_lt _⟩, hR.2.2.1⟩

/-- A step of Miller's. -/
def mStep (P R : Pt) (b : Bool) (s : (Int × Int) × Pt) : (Int × Int) × Pt :=
  if b then (tm (tm (tm s.1 s.1) (pLine s.2 s.2 R)) (pLine (pAdd s.2 s.2) P R), pAdd (pAdd s.2 s.2) P)
  else (tm (tm s.1 s.1) (pLine s.2 s.2 R), pAdd s.2 s.2)
def mBits : List Bool := [true, true, true, true, true, false, false, false, true]
def mRun (P R : Pt) : List Bool → (Int × Int) × Pt → (Int × Int) × Pt
  | [], s => s
  | b :: r, s => mRun P R r (mStep P R b s)
/-- Miller's number. -/
def mill (P R : Pt) : Int × Int := (mRun P R mBits ((1, 0), P)).1

/-- The lines' numbers along the group. -/
def lN (R : Pt) (i j : Nat) : Int × Int := ch (pLine (pMul pB i) (pMul pB j) R)

section
variable {R : Pt}
theorem ln_zero (i : Nat) : lN R i 0 = (1, 0) := by
  unfold lN
  rw [show pMul pB 0 = pZ from rfl, line_zero_right, ch_one]
theorem ln_coc (hR : Aff R) (hq : ¬ Dv R.2.1) (i j : Nat) : tm (lN R i j) (lN R (i + j) 1) = tm (lN R j 1) (lN R i (j + 1)) := by
  unfold lN
  rw [pmul_add pb_ok i j, pmul_add pb_ok j 1]
  exact coc_pts grp ⟨i, rfl⟩ ⟨j, rfl⟩ ⟨1, rfl⟩ hR hq
theorem ln_round (n : Nat) : lN R (n + 1009) 1 = lN R n 1 := by
  unfold lN
  rw [pmul_add pb_ok n 1009, b1009, padd_zero (pmul_ok pb_ok n)]
theorem ln_order (hR : Aff R) (hq : ¬ Dv R.2.1) (n : Nat) : pw (lN R n 1) (1009 * 12) = (1, 0) := by
  unfold lN
  exact ch_order (in2_line hR) (nz_ne (nz_line hq))

/-- What holds along Miller's steps. -/
def MI (R : Pt) (i n : Nat) (s : (Int × Int) × Pt) : Prop := s.2 = pMul pB (n * i) ∧ tm (ch s.1) (pw (psi (lN R) i) n) = psi (lN R) (n * i) ∧ In2 s.1 ∧ Nz s.1

theorem mi_start (i : Nat) : MI R i 1 ((1, 0), pMul pB i) := by
  refine ⟨by rw [Nat.one_mul], ?_, in2_one, nz_one⟩
  show tm (ch (1, 0)) (pw (psi (lN R) i) 1) = psi (lN R) (1 * i)
  rw [ch_one, pw_one (in2_psi i), Nat.one_mul, one_tm (in2_psi i)]

theorem mi_step (hR : Aff R) (hq : ¬ Dv R.2.1) {i n : Nat} {s : (Int × Int) × Pt} (b : Bool) (h : MI R i n s) : MI R i (2 * n + if b then 1 else 0) (mStep (pMul pB i) R b s) := by
  obtain ⟨h1, h2, h3, h4⟩ := h
  have d := mill_dbl ln_zero (ln_coc hR hq) h2
  have nz2 : Nz (tm (tm s.1 s.1) (pLine s.2 s.2 R)) := nz_tm (nz_tm h4 h4) (nz_line hq)
  have e2 : pAdd s.2 s.2 = pMul pB (2 * n * i) := by
    rw [h1, ← pmul_add pb_ok]
    congr 1
    rw [Nat.mul_assoc]; omega
  have c2 : ch (tm (tm s.1 s.1) (pLine s.2 s.2 R)) = tm (tm (ch s.1) (ch s.1)) (lN R (n * i) (n * i)) := by
    rw [ch_tm, ch_tm]
    unfold lN
    rw [h1]
  rw [← c2] at d
  cases b
  · refine ⟨?_, ?_, in2_tm _ _, nz2⟩
    · show pAdd s.2 s.2 = pMul pB (2 * n * i)
      exact e2
    · exact d
  · have k := mill_add ln_zero (ln_coc hR hq) d
    refine ⟨?_, ?_, in2_tm _ _, nz_tm nz2 (nz_line hq)⟩
    · show pAdd (pAdd s.2 s.2) (pMul pB i) = pMul pB ((2 * n + 1) * i)
      rw [e2, ← pmul_add pb_ok, Nat.succ_mul (2 * n) i]
    · show tm (ch (tm (tm (tm s.1 s.1) (pLine s.2 s.2 R)) (pLine (pAdd s.2 s.2) (pMul pB i) R))) (pw (psi (lN R) i) (2 * n + 1)) = psi (lN R) ((2 * n + 1) * i)
      rw [ch_tm (tm (tm s.1 s.1) (pLine s.2 s.2 R)), e2]
      exact k

theorem mi_end (hR : Aff R) (hq : ¬ Dv R.2.1) (i : Nat) : MI R i 1009 (mRun (pMul pB i) R mBits ((1, 0), pMul pB i)) :=
  mi_step hR hq true (mi_step hR hq false (mi_step hR hq false (mi_step hR hq false (mi_step hR hq true (mi_step hR hq true (mi_step hR hq true (mi_step hR hq true (mi_step hR hq true (mi_start i)))))))))

/-- What the specification makes of Miller's number. -/
def mEnd (z : Int × Int) : Int × Int := pw (tm (tt z) (ti z)) 12

theorem mend_eq (hR : Aff R) (hq : ¬ Dv R.2.1) (i : Nat) : mEnd (mill (pMul pB i) R) = pw (pw (psi (lN R) 1009) 12) i := by
  obtain ⟨_, h2, h3, h4⟩ := mi_end hR hq i
  unfold mEnd mill
  rw [ch_end h3 (nz_ne h4)]
  exact mill_end ln_round (ln_order hR hq) h2

/-- **What the first point has so often, the pair has so often.** -/
theorem pair_left (hR : Aff R) (hq : ¬ Dv R.2.1) (i : Nat) : mEnd (mill (pMul pB i) R) = pw (mEnd (mill pB R)) i := by
  have h1 := mend_eq hR hq 1
  rw [pmul_one, pw_one (in2_pw _ _)] at h1
  rw [mend_eq hR hq i, h1]
end

end Go.Proofs.YthnahalboomkoaaGreat

/-
  The pairs of the base point with every point of its group: how they are looked over.
-/
namespace Go.Proofs.YthnahalboomkoaaGreat

/-- The pair of the base point with itself. -/
def gB : Int × Int := (372, 3632)
def chkRow (P : Pt) (g : Int × Int) (x y a b : Int) : Bool :=
  decide (pAdd P pB = (x, y, false)) && decide (tm g gB = (a, b)) && decide (mEnd (mill pB (x, y, false)) = (a, b))
def chkAll : List (Int × Int × Int × Int) → Pt → Int × Int → Bool
  | [], _, _ => true
  | (x, y, a, b) :: r, P, g => chkRow P g x y a b && chkAll r (x, y, false) (a, b)

theorem in2_gb : In2 gB := ⟨⟨by decide, by decide⟩, by decide, by decide⟩

/-- What is looked over holds of each. -/
theorem chk_all : ∀ (l : List (Int × Int × Int × Int)) (n : Nat), chkAll l (pMul pB n) (pw gB n) = true → ∀ k, k < l.length →
    (∃ x y, pMul pB (n + k + 1) = (x, y, false)) ∧ mEnd (mill pB (pMul pB (n + k + 1))) = pw gB (n + k + 1)
  | [], _, _, k, hk => absurd hk (Nat.not_lt_zero k)
  | (x, y, a, b) :: r, n, h, k, hk => by
    simp only [chkAll, chkRow, Bool.and_eq_true, decide_eq_true_eq] at h
    obtain ⟨⟨⟨h1, h2⟩, h3⟩, h4⟩ := h
    have e1 : pMul pB (n + 1) = (x, y, false) := h1
    have e2 : pw gB (n + 1) = (a, b) := by rw [pw_succ in2_gb]; exact h2
    rw [← e1, ← e2] at h4
    cases k with
    | zero => exact ⟨⟨x, y, e1⟩, by rw [Nat.add_zero, e1, e2]; exact h3⟩
    | succ k =>
      have := chk_all r (n + 1) h4 k (by simpa using hk)
      rw [show n + (k + 1) + 1 = n + 1 + k + 1 by omega]
      exact this

/-- The last of them. -/
theorem chk_last : ∀ (l : List (Int × Int × Int × Int)) (n : Nat) (P : Pt) (g : Int × Int), chkAll l (pMul pB n) (pw gB n) = true → (l.getLast?).map (fun t => ((t.1, t.2.1, false), (t.2.2.1, t.2.2.2))) = some (P, g) → pMul pB (n + l.length) = P ∧ pw gB (n + l.length) = g
  | [], _, _, _, _, hk => by simp at hk
  | [(x, y, a, b)], n, P, g, h, hk => by
    simp only [chkAll, chkRow, Bool.and_eq_true, decide_eq_true_eq] at h
    obtain ⟨⟨⟨h1, h2⟩, h3⟩, h4⟩ := h
    simp at hk
    obtain ⟨rfl, rfl⟩ := hk
    exact ⟨h1, by show pw gB (n + 1) = _; rw [pw_succ in2_gb]; exact h2⟩
  | (x, y, a, b) :: t :: r, n, P, g, h, hk => by
    simp only [chkAll, chkRow, Bool.and_eq_true, decide_eq_true_eq] at h
    obtain ⟨⟨⟨h1, h2⟩, h3⟩, h4⟩ := h
    have e1 : pMul pB (n + 1) = (x, y, false) := h1
    have e2 : pw gB (n + 1) = (a, b) := by rw [pw_succ in2_gb]; exact h2
    have h5 : chkAll (t :: r) (pMul pB (n + 1)) (pw gB (n + 1)) = true := by
      rw [e1, e2]
      obtain ⟨t1, t2, t3, t4⟩ := t
      simp only [chkAll, chkRow, Bool.and_eq_true, decide_eq_true_eq]
      exact h4
    have := chk_last (t :: r) (n + 1) P g h5 (by simpa using hk)
    rw [show n + ((x, y, a, b) :: t :: r).length = n + 1 + (t :: r).length by simp; omega]
    exact this

end Go.Proofs.YthnahalboomkoaaGreat

/-
  The pairs of the base point with points 1 to 252 of its group.
-/
namespace Go.Proofs.YthnahalboomkoaaGreat

def tab1 : List (Int × Int × Int × Int) := [
  (8445, 859, 372, 3632), (8558, 1817, 10413, 2347), (7244, 3323, 10527, 11235), (174, 11376, 553, 2663), (11077, 2618, 1374, 8703), (3997, 5536, 4715, 7231), (974, 5050, 7663, 7760), (4547, 10818, 6267, 3277), (2075, 3173, 5897, 8928), (4254, 5624, 10474, 4519), (11304, 10954, 1958, 11676), (9483, 5817, 5545, 1706),
  (1171, 1110, 7142, 10567), (3742, 3957, 5237, 2699), (3129, 10372, 2839, 11941), (2944, 11878, 361, 6974), (4556, 982, 11498, 7026), (8592, 366, 6609, 2253), (5629, 10287, 2263, 10547), (10362, 1105, 6297, 11486), (10942, 7214, 9403, 11709), (3218, 10330, 3796, 7184), (3933, 11096, 5997, 6107), (3241, 5312, 2596, 8406),
  (11522, 8886, 414, 745), (8992, 3077, 2745, 1059), (8704, 11061, 7890, 196), (3863, 10642, 7627, 11588), (8130, 902, 522, 1092), (9868, 2141, 5424, 1798), (2988, 10600, 3303, 4850), (10168, 10816, 6394, 10823), (11302, 4540, 7889, 8414), (4016, 9102, 3234, 1981), (11996, 6693, 1021, 503), (3300, 9752, 5756, 9041),
  (10983, 11971, 7672, 6616), (5875, 11309, 11922, 9928), (11438, 10887, 12079, 6653), (7157, 997, 3567, 248), (4983, 3094, 2443, 8361), (2974, 8356, 10082, 9445), (8370, 3172, 4332, 8766), (7614, 6444, 4571, 11000), (11231, 11717, 6532, 3009), (5598, 7273, 330, 8), (7644, 2465, 8955, 2943), (10713, 6409, 3340, 10324),
  (3060, 8379, 6177, 2275), (4499, 3804, 3795, 11510), (11301, 2690, 8479, 1516), (5306, 7669, 8941, 2550), (1943, 3965, 8989, 6992), (9922, 5388, 7918, 5595), (7689, 9607, 10108, 2987), (5496, 4797, 6094, 1152), (8714, 6032, 7917, 6611), (11739, 3667, 152, 1990), (3611, 9613, 8315, 9002), (5880, 9914, 11638, 327),
  (3834, 8210, 5959, 4253), (8125, 8913, 2803, 3978), (1114, 93, 9176, 1271), (2887, 1180, 7900, 9407), (4714, 9157, 8636, 11798), (6578, 583, 574, 2837), (7888, 4891, 6782, 4419), (2620, 5577, 8722, 3902), (7620, 3565, 5141, 5096), (9477, 11243, 2477, 10138), (3753, 458, 9590, 7022), (10599, 10553, 1460, 8220),
  (9105, 6895, 11234, 6730), (9101, 9431, 2806, 10816), (4295, 5089, 6133, 1326), (11180, 3825, 7914, 7168), (5292, 2941, 9988, 4586), (246, 2286, 1567, 2749), (11264, 6721, 5695, 6694), (9339, 6228, 10170, 1610), (6844, 4788, 6017, 4660), (1142, 1871, 11102, 2828), (10666, 5397, 9004, 4861), (9937, 2454, 4810, 5870),
  (9238, 11869, 10178, 3899), (8861, 11625, 747, 1413), (1707, 6233, 775, 6171), (11517, 416, 6824, 1258), (214, 9395, 3448, 9649), (2047, 11307, 3911, 10254), (6867, 7074, 656, 4024), (4964, 8778, 11980, 5280), (1134, 11954, 1712, 1628), (9972, 3684, 2620, 7359), (9806, 2966, 10448, 1104), (3618, 8473, 10105, 2848),
  (668, 7950, 1332, 11190), (5551, 7258, 236, 5003), (10653, 6801, 4754, 6300), (9833, 6767, 1496, 8895), (4046, 11899, 6533, 1158), (6257, 9965, 4149, 5167), (4687, 10039, 5145, 5171), (7778, 9580, 10026, 4138), (2750, 8938, 8394, 10430), (9508, 1274, 5, 7302), (3137, 5826, 7433, 10429), (1563, 10816, 9355, 3394),
  (10871, 7612, 3269, 8558), (10382, 11740, 1381, 7583), (456, 6804, 7207, 3439), (9847, 5302, 9333, 8563), (1452, 3038, 11341, 11258), (488, 3386, 1899, 1452), (4434, 8232, 9210, 3614), (11387, 1609, 9886, 11717), (6807, 8538, 9132, 8901), (820, 11771, 4402, 205), (5370, 2997, 9173, 10442), (6966, 10952, 4069, 8056),
  (8843, 9560, 3520, 2364), (11697, 3487, 11806, 7352), (1450, 11093, 2569, 7267), (1170, 7467, 10838, 11681), (7832, 10603, 9748, 2678), (5746, 2830, 1688, 7310), (9690, 8914, 11210, 12026), (12, 314, 8936, 5068), (9809, 7463, 2538, 5396), (5497, 4041, 2751, 2139), (8319, 9075, 10230, 3), (11952, 5858, 5173, 93),
  (1574, 9995, 563, 8654), (537, 2978, 2061, 9666), (4841, 4783, 7339, 3399), (133, 4657, 10005, 934), (8049, 3959, 2683, 1398), (482, 519, 599, 10083), (9027, 7673, 7121, 6121), (376, 1291, 6666, 3816), (7667, 6546, 620, 12052), (4370, 3356, 6655, 3692), (2843, 9797, 11044, 10721), (4548, 11609, 1535, 6326),
  (4803, 1742, 5045, 10414), (9076, 5281, 10882, 5317), (8433, 2909, 3687, 10659), (4571, 11289, 8171, 7001), (11850, 7377, 9930, 4182), (990, 558, 6586, 5015), (2024, 2481, 10933, 10129), (11236, 1049, 3769, 407), (8758, 7379, 8593, 2111), (6252, 3860, 9034, 8374), (11881, 3716, 5425, 5147), (4320, 10284, 7642, 7289),
  (7998, 5604, 2040, 6040), (7540, 7302, 8850, 6881), (5655, 10181, 8259, 4270), (293, 11748, 9704, 10072), (907, 8198, 7852, 7172), (4835, 5610, 8717, 10923), (9017, 1517, 351, 7850), (8548, 5584, 10287, 6010), (5273, 309, 1553, 8214), (458, 9984, 7087, 3278), (12064, 11828, 4630, 9218), (9154, 2706, 11352, 2352),
  (3281, 7522, 2679, 9369), (4145, 73, 8383, 6659), (6760, 1617, 11275, 5271), (11227, 2275, 2173, 4404), (9839, 2148, 7313, 2415), (455, 5348, 2656, 520), (1198, 8175, 7417, 9148), (2036, 9855, 6907, 1458), (8799, 2020, 10130, 10188), (8505, 9820, 11366, 11539), (9381, 2212, 7595, 3072), (5738, 8215, 9559, 10020),
  (1584, 1692, 9599, 6003), (2452, 3409, 1074, 836), (3763, 5371, 2502, 10631), (9832, 9373, 8043, 2757), (6411, 5237, 632, 6601), (3621, 6329, 2099, 5052), (3149, 4781, 11328, 11024), (2875, 969, 11568, 365), (1866, 2641, 11401, 6289), (6434, 9693, 7983, 5349), (11795, 5290, 7628, 2271), (6791, 4285, 1173, 1402),
  (314, 8094, 5487, 11722), (7430, 11880, 1096, 2726), (9297, 2774, 10875, 6660), (4128, 10933, 2428, 551), (10481, 10421, 3721, 3753), (9073, 12033, 5600, 7071), (9279, 11446, 9978, 2633), (4413, 2593, 8548, 2654), (11870, 2866, 5666, 10609), (8823, 6265, 5827, 8785), (2578, 4449, 7423, 11865), (10559, 6811, 8200, 4879),
  (5987, 10689, 3556, 10225), (7734, 7252, 10245, 11432), (10292, 11866, 3421, 8176), (5324, 10969, 4616, 5905), (8571, 10473, 4602, 2410), (6910, 767, 5098, 7406), (7062, 8034, 10926, 11076), (721, 1369, 49, 378), (7747, 9647, 1316, 3802), (7802, 9258, 10495, 7379), (4261, 1691, 10056, 1703), (9758, 3268, 1150, 525),
  (7523, 11870, 10161, 1473), (3323, 4967, 3866, 5757), (4495, 3778, 8891, 7964), (9379, 4956, 616, 11243), (10613, 3138, 1454, 2998), (6685, 7335, 3637, 3688), (2436, 1052, 4613, 4692), (11805, 3069, 2154, 344), (9188, 2724, 11946, 9104), (4861, 9620, 11239, 5219), (11866, 3183, 8147, 11699), (3267, 8636, 8736, 6011),
  (5413, 10337, 2085, 5109), (10111, 8326, 4915, 5594), (8899, 1917, 10468, 4126), (6644, 1738, 10583, 1079), (7708, 314, 5841, 11695), (7476, 5755, 815, 7175), (5602, 10902, 7276, 11532), (9608, 11068, 700, 877), (5645, 11769, 5030, 11392), (1077, 11250, 557, 11978), (11791, 6880, 9847, 1595), (3791, 5446, 876, 323),
  (8337, 585, 226, 8684), (1414, 10477, 9877, 7542), (3812, 2782, 11420, 9130), (1219, 10240, 11703, 5258), (2790, 1653, 2786, 4368), (4746, 2835, 2891, 11965), (1089, 7505, 5179, 11054), (2922, 8480, 259, 3665), (5647, 4259, 5912, 3738), (9288, 4077, 3428, 4904), (9087, 8151, 2050, 631), (9765, 9041, 8397, 4494)]

set_option maxRecDepth 100000 in
theorem tab1_ok : chkAll tab1 pZ (1, 0) = true := by decide +kernel

end Go.Proofs.YthnahalboomkoaaGreat
