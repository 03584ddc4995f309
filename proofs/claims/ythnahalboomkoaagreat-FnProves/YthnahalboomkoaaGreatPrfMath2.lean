/-
  What is proven is right, in how often the base everything is: no program in here.
-/
import Derived.Test.YthnahalboomkoaaGreatPrfMath
import Derived.Test.YthnahalboomkoaaGreatJoined10

namespace Go.Proofs.YthnahalboomkoaaGreat

theorem sumZ_mul (c : Int) (f : Nat → Int) : ∀ k, sumZ (fun i => c * f i) k = c * sumZ f k
  | 0 => by show (0 : Int) = c * 0; omega
  | k + 1 => by show sumZ (fun i => c * f i) k + c * f k = c * (sumZ f k + f k); rw [sumZ_mul c f k]; grind
theorem sumZ_add (f g : Nat → Int) : ∀ k, sumZ (fun i => f i + g i) k = sumZ f k + sumZ g k
  | 0 => by show (0 : Int) = 0 + 0; omega
  | k + 1 => by show sumZ (fun i => f i + g i) k + (f k + g k) = sumZ f k + f k + (sumZ g k + g k); rw [sumZ_add f g k]; omega
theorem sumZ_split (f : Nat → Int) (a : Nat) : ∀ b, sumZ f (a + b) = sumZ f a + sumZ (fun i => f (a + i)) b
  | 0 => by show sumZ f a = sumZ f a + 0; omega
  | b + 1 => by show sumZ f (a + b) + f (a + b) = sumZ f a + (sumZ (fun i => f (a + i)) b + f (a + b)); rw [sumZ_split f a b]; omega
theorem sumZ_front (f : Nat → Int) (k : Nat) : sumZ f (k + 1) = f 0 + sumZ (fun i => f (i + 1)) k := by
  have h := sumZ_split f 1 k
  rw [Nat.add_comm 1 k] at h
  rw [h]
  have e : (fun i => f (1 + i)) = fun i => f (i + 1) := funext fun i => by rw [Nat.add_comm]
  rw [e]
  show 0 + f 0 + _ = _
  omega
theorem ev_sum (x : Int) : ∀ l : List Int, ev l x = sumZ (fun i => l.getD i 0 * x ^ i) l.length
  | [] => rfl
  | a :: t => by
    rw [List.length_cons, sumZ_front]
    have e : (fun i => (a :: t).getD (i + 1) 0 * x ^ (i + 1)) = fun i => x * (t.getD i 0 * x ^ i) := funext fun i => by
      rw [List.getD_cons_succ]
      grind
    rw [e, sumZ_mul, ← ev_sum x t]
    show a + x * ev t x = (a :: t).getD 0 0 * x ^ 0 + x * ev t x
    rw [List.getD_cons_zero]
    grind

/-- The sums of a right proof. u, v, x: what each wire is at Tau; al .. de the numbers of the keys; gi, di what is multiplied by in their place; I, L, Z the keys; w the witness, h the quotient. -/
theorem proves_sum {al be ga de gi di ta t r z : Int} {wn p hl : Nat} (hp : p + 1 ≤ wn) (u v x al1 I L Z w h : Nat → Int)
    (hall : ∀ j, j < wn → Dp (al1 j - (be * u j + al * v j + x j))) (hgi : Dp (ga * gi - 1)) (hdi : Dp (de * di - 1))
    (hI : ∀ j, j ≤ p → Dp (I j - al1 j * gi)) (hL : ∀ j, j < wn - p - 1 → Dp (L j - al1 (p + 1 + j) * di)) (hZ : ∀ i, i < hl → Dp (de * Z i - t * ta ^ i))
    (hq : Dp (sumZ (fun j => w j * u j) wn * sumZ (fun j => w j * v j) wn - (sumZ (fun j => w j * x j) wn + sumZ (fun i => h i * ta ^ i) hl * t))) :
    Dp ((al + sumZ (fun j => w j * u j) wn + r * de) * (be + sumZ (fun j => w j * v j) wn + z * de) - (al * be + sumZ (fun j => w j * I j) (p + 1) * ga + (sumZ (fun j => w (p + 1 + j) * L j) (wn - p - 1) + sumZ (fun i => h i * Z i) hl + z * (al + sumZ (fun j => w j * u j) wn + r * de) + r * (be + sumZ (fun j => w j * v j) wn + z * de) + -(r * z) * de) * de)) := by
  have hwn : p + 1 + (wn - p - 1) = wn := by omega
  -- what is told
  have h1 : Dp (ga * sumZ (fun j => w j * I j) (p + 1) - sumZ (fun j => w j * al1 j) (p + 1)) := by
    rw [← sumZ_mul]
    refine sumZ_congr (p + 1) fun j hj => ?_
    have a1 := hI j (by omega)
    exact ((a1.mul (ga * w j)).add (hgi.mul (w j * al1 j))).of (by grind)
  have h2 : Dp (de * sumZ (fun j => w (p + 1 + j) * L j) (wn - p - 1) - sumZ (fun j => w (p + 1 + j) * al1 (p + 1 + j)) (wn - p - 1)) := by
    rw [← sumZ_mul]
    refine sumZ_congr _ fun j hj => ?_
    have a1 := hL j hj
    exact ((a1.mul (de * w (p + 1 + j))).add (hdi.mul (w (p + 1 + j) * al1 (p + 1 + j)))).of (by grind)
  have h3 : Dp (de * sumZ (fun i => h i * Z i) hl - t * sumZ (fun i => h i * ta ^ i) hl) := by
    rw [← sumZ_mul, ← sumZ_mul]
    refine sumZ_congr hl fun i hi => ?_
    exact ((hZ i hi).mul (h i)).of (by grind)
  have h4 : sumZ (fun j => w j * al1 j) wn = sumZ (fun j => w j * al1 j) (p + 1) + sumZ (fun j => w (p + 1 + j) * al1 (p + 1 + j)) (wn - p - 1) := by
    have e := sumZ_split (fun j => w j * al1 j) (p + 1) (wn - p - 1)
    rwa [hwn] at e
  have h5 : Dp (sumZ (fun j => w j * al1 j) wn - (be * sumZ (fun j => w j * u j) wn + al * sumZ (fun j => w j * v j) wn + sumZ (fun j => w j * x j) wn)) := by
    rw [← sumZ_mul, ← sumZ_mul, ← sumZ_add, ← sumZ_add]
    refine sumZ_congr wn fun j hj => ?_
    exact ((hall j hj).mul (w j)).of (by grind)
  generalize sumZ (fun j => w j * u j) wn = U at *
  generalize sumZ (fun j => w j * v j) wn = V at *
  generalize sumZ (fun j => w j * x j) wn = X at *
  generalize sumZ (fun i => h i * ta ^ i) hl = H at *
  generalize sumZ (fun j => w j * al1 j) wn = S at *
  generalize sumZ (fun j => w j * al1 j) (p + 1) = S1 at *
  generalize sumZ (fun j => w (p + 1 + j) * al1 (p + 1 + j)) (wn - p - 1) = S2 at *
  generalize sumZ (fun j => w j * I j) (p + 1) = i at *
  generalize sumZ (fun j => w (p + 1 + j) * L j) (wn - p - 1) = l at *
  generalize sumZ (fun i => h i * Z i) hl = c at *
  exact ((((hq.sub h1).sub h2).sub h3).sub (h5.of (by rw [h4]))).of (by grind)

/-- Whoever knows the numbers proves all. -/
theorem fakes_sum {al be ga de gi di a b sum i c : Int} (hgi : Dp (ga * gi - 1)) (hdi : Dp (de * di - 1)) (hi : Dp (i - sum * gi)) (hc : Dp (c - (a * b + -(al * be) + -sum) * di)) : Dp (a * b - (al * be + i * ga + c * de)) :=
  ((((hi.mul (-ga)).add (hc.mul (-de))).add (hgi.mul (-sum))).add (hdi.mul (-(a * b + -(al * be) + -sum)))).of (by grind)

/-- Told otherwise it is right just when the sum is the same. -/
theorem other_iff {e ga gi i i' : Int} (hgi : Dp (ga * gi - 1)) (h : Dp (e - i * ga)) : Dp (e - i' * ga) ↔ Dp (i - i') := by
  constructor
  · intro h2
    exact ((h2.sub h).mul gi).sub (hgi.mul (i - i')) |>.of (by grind)
  · intro h2
    exact (h.add (h2.mul ga)).of (by grind)
/-- With the base put to it it is not right. -/
theorem plus_no {e c de di : Int} (hdi : Dp (de * di - 1)) (h : Dp (e - c * de)) : ¬ Dp (e - (c + 1) * de) := fun h2 => by
  have h3 : Dp de := (h.sub h2).of (by grind)
  have h4 : Dp 1 := ((h3.mul di).sub hdi).of (by grind)
  unfold Dp at h4
  omega

end Go.Proofs.YthnahalboomkoaaGreat
