/-
  A proof without a witness, in how often the base its points are: no program in here.
-/
import Derived.Test.YthnahalboomkoaaGreatJoined17

namespace Go.Proofs.YthnahalboomkoaaGreat

theorem dot_dp (f g : Nat → Int) : ∀ k, Dp (dotN f g k - sumZ (fun j => f j * g j) k)
  | 0 => dp_zero.of (by show (0 : Int) - 0 = 0; omega)
  | k + 1 => by
    have h1 := dp_scAdd (dotN f g k) (scMul (f k) (g k))
    have h2 := dp_scMul (f k) (g k)
    have h3 := dot_dp f g k
    exact ((h1.add h2).add h3).of (by show scAdd (dotN f g k) (scMul (f k) (g k)) - (sumZ (fun j => f j * g j) k + f k * g k) = _; omega)
/-- What is told, times what each wire is. -/
def fkSum (ls : List (List Int)) (n : Nat) (ta al be : Int) (m : Nat → Int) (p : Nat) : Int := kAll ls n ta al be 0 + sumZ (fun j => m j * kAll ls n ta al be (j + 1)) p
def fkV (ls : List (List Int)) (n : Nat) (ta al be de : Int) (m : Nat → Int) (p : Nat) (x y : Int) : Int := (x * y + -(al * be) + -(fkSum ls n ta al be m p)) * scInv de
/-- The specification's sum, one by one. -/
def fkS (ls : List (List Int)) (n : Nat) (ta al be : Int) (m : Nat → Int) : Nat → Int
  | 0 => kAll ls n ta al be 0
  | j + 1 => scAdd (fkS ls n ta al be m j) (scMul (m j) (kAll ls n ta al be (j + 1)))
theorem fkS_dp (ls : List (List Int)) (n : Nat) (ta al be : Int) (m : Nat → Int) : ∀ p, Dp (fkS ls n ta al be m p - fkSum ls n ta al be m p)
  | 0 => dp_zero.of (by show kAll ls n ta al be 0 - (kAll ls n ta al be 0 + 0) = 0; omega)
  | p + 1 => by
    have h1 := dp_scAdd (fkS ls n ta al be m p) (scMul (m p) (kAll ls n ta al be (p + 1)))
    have h2 := dp_scMul (m p) (kAll ls n ta al be (p + 1))
    have h3 := fkS_dp ls n ta al be m p
    unfold fkSum at h3 ⊢
    exact ((h1.add h2).add h3).of (by show scAdd (fkS ls n ta al be m p) (scMul (m p) (kAll ls n ta al be (p + 1))) - (kAll ls n ta al be 0 + (sumZ (fun j => m j * kAll ls n ta al be (j + 1)) p + m p * kAll ls n ta al be (p + 1))) = _; omega)
/-- What the specification comes to. -/
theorem fkSpec_dp (ls : List (List Int)) (n : Nat) (ta al be de : Int) (m : Nat → Int) (p : Nat) (x y : Int) : Dp (scMul (scAdd (scAdd (scMul x y) (scNeg (scMul al be))) (scNeg (fkS ls n ta al be m p))) (scInv de) - fkV ls n ta al be de m p x y) := by
  have h1 := dp_scMul (scAdd (scAdd (scMul x y) (scNeg (scMul al be))) (scNeg (fkS ls n ta al be m p))) (scInv de)
  have h2 := dp_scAdd (scAdd (scMul x y) (scNeg (scMul al be))) (scNeg (fkS ls n ta al be m p))
  have h3 := dp_scAdd (scMul x y) (scNeg (scMul al be))
  have h4 := dp_scMul x y
  have h5 := dp_scNeg (scMul al be)
  have h6 := dp_scMul al be
  have h7 := dp_scNeg (fkS ls n ta al be m p)
  have h8 := fkS_dp ls n ta al be m p
  unfold fkV
  generalize fkSum ls n ta al be m p = S at *
  generalize fkS ls n ta al be m p = S1 at *
  generalize scNeg S1 = S2 at *
  generalize scMul al be = A1 at *
  generalize scNeg A1 = A2 at *
  generalize scMul x y = X1 at *
  generalize scAdd X1 A2 = B1 at *
  generalize scAdd B1 S2 = C1 at *
  generalize scInv de = D at *
  exact (h1.add ((((((h2.add h3).add h4).add h5).sub h6).add h7).sub h8 |>.mul D)).of (by grind)
/-- The inputs are the sum, by Gamma. -/
theorem fkIn_dp (ls : List (List Int)) (n : Nat) (ta al be gi : Int) (m : Nat → Int) (p : Nat) : Dp (scAdd (kBy ls n ta al be gi 0) (dotN (fun j => kBy ls n ta al be gi (j + 1)) m p) - gi * fkSum ls n ta al be m p) := by
  have h1 := dp_scAdd (kBy ls n ta al be gi 0) (dotN (fun j => kBy ls n ta al be gi (j + 1)) m p)
  have h2 : Dp (kBy ls n ta al be gi 0 - kAll ls n ta al be 0 * gi) := dp_scMul _ _
  have h3 := dot_dp (fun j => kBy ls n ta al be gi (j + 1)) m p
  have h4 : Dp (sumZ (fun j => kBy ls n ta al be gi (j + 1) * m j) p - sumZ (fun j => gi * (m j * kAll ls n ta al be (j + 1))) p) := sumZ_congr p fun j _ => by
    have h : Dp (kBy ls n ta al be gi (j + 1) - kAll ls n ta al be (j + 1) * gi) := dp_scMul _ _
    exact (h.mul (m j)).of (by grind)
  rw [sumZ_mul] at h4
  unfold fkSum
  generalize sumZ (fun j => m j * kAll ls n ta al be (j + 1)) p = S at *
  generalize sumZ (fun j => kBy ls n ta al be gi (j + 1) * m j) p = S1 at *
  exact (((h1.add h2).add h3).add h4).of (by grind)
/-- What the program comes to. -/
theorem fkProg_dp (ls : List (List Int)) (n : Nat) (ta al be : Int) {ga : Int} (de : Int) (hg : 1 ≤ ga ∧ ga ≤ 1008) (m : Nat → Int) (p : Nat) (x y : Int) : Dp (scMul (dotN (fun j => ([x, -al, -ga] : List Int).getD j 0) (fun j => ([y, be, scAdd (kBy ls n ta al be (scInv ga) 0) (dotN (fun j => kBy ls n ta al be (scInv ga) (j + 1)) m p)] : List Int).getD j 0) 3) (scInv de) - fkV ls n ta al be de m p x y) := by
  have h1 := fkIn_dp ls n ta al be (scInv ga) m p
  have h2 := inv_dp hg
  generalize scAdd (kBy ls n ta al be (scInv ga) 0) (dotN (fun j => kBy ls n ta al be (scInv ga) (j + 1)) m p) = I at *
  have h3 := dot_dp (fun j => ([x, -al, -ga] : List Int).getD j 0) (fun j => ([y, be, I] : List Int).getD j 0) 3
  have h4 := dp_scMul (dotN (fun j => ([x, -al, -ga] : List Int).getD j 0) (fun j => ([y, be, I] : List Int).getD j 0) 3) (scInv de)
  have e3 : sumZ (fun j => ([x, -al, -ga] : List Int).getD j 0 * ([y, be, I] : List Int).getD j 0) 3 = x * y + -al * be + -ga * I := by
    show 0 + x * y + -al * be + -ga * I = _
    omega
  rw [e3] at h3
  unfold fkV
  generalize dotN (fun j => ([x, -al, -ga] : List Int).getD j 0) (fun j => ([y, be, I] : List Int).getD j 0) 3 = M at *
  generalize fkSum ls n ta al be m p = S at *
  generalize scInv ga = gi at *
  generalize scInv de = di at *
  exact (h4.add ((h3.sub (h1.mul ga)).sub (h2.mul S) |>.mul di)).of (by grind)
/-- Whether one may. -/
def fkB (wi pu : Int) (n : Nat) (ls : List (List Int)) (ta al be ga de : Int) (ml : Nat) (x y : Int) : Bool := toxB wi pu n ls ta al be ga de && (scalB x && (scalB y && decide ((ml : Int) = pu)))
def fkPt (q : Bool) (x : Int) : Pt := if q then gx x else (0, 0, false)

end Go.Proofs.YthnahalboomkoaaGreat
