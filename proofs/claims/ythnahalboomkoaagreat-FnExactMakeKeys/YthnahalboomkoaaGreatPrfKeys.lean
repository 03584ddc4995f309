/-
  Keys and proofs, in how often the base their points are: no program in here.
-/
import Derived.Test.YthnahalboomkoaaGreatPrfMath
import Derived.Test.YthnahalboomkoaaGreatJoined7
import Derived.Test.YthnahalboomkoaaGreatJoined10
import Derived.Test.YthnahalboomkoaaGreatJoined12
import Derived.Test.YthnahalboomkoaaGreatPolyMulS
import Derived.Test.YthnahalboomkoaaGreatQapS2
import Derived.Test.YthnahalboomkoaaGreatJoined11
import Derived.Test.YthnahalboomkoaaGreatRwSys2
import Derived.Test.YthnahalboomkoaaGreatJoined13

namespace Go.Proofs.YthnahalboomkoaaGreat

theorem wire_dp (al be u v x : Int) : Dp (wireA al be u v x - (be * u + al * v + x)) := by
  have h1 := dp_scAdd (scAdd (scMul be u) (scMul al v)) x
  have h2 := dp_scAdd (scMul be u) (scMul al v)
  have h3 := dp_scMul be u
  have h4 := dp_scMul al v
  exact (((h1.add h2).add h3).add h4).of (by unfold wireA; omega)
theorem wire_sc (al be u v x : Int) : Sc (wireA al be u v x) := sc_add _ _
/-- The same by a product of lists. -/
theorem wire_dot (al be u v x : Int) : dotN (fun j => ([be, al, 1] : List Int).getD j 0) (fun j => ([u, v, x] : List Int).getD j 0) 3 = wireA al be u v x := by
  refine dp_small ?_ (sc_add _ _) (wire_sc _ _ _ _ _)
  show Dp (scAdd (scAdd (scAdd 0 (scMul be u)) (scMul al v)) (scMul 1 x) - _)
  have h0 := wire_dp al be u v x
  have h1 := dp_scAdd (scAdd (scAdd 0 (scMul be u)) (scMul al v)) (scMul 1 x)
  have h2 := dp_scAdd (scAdd 0 (scMul be u)) (scMul al v)
  have h3 := dp_scAdd 0 (scMul be u)
  have h4 := dp_scMul be u
  have h5 := dp_scMul al v
  have h6 := dp_scMul 1 x
  exact ((((((h1.add h2).add h3).add h4).add h5).add h6).sub h0).of (by omega)

/-- What a wire is at Tau. -/
def kW (ls : List (List Int)) (n : Nat) (ta : Int) (t j : Nat) : Int := pAt (pThr (colL ls n t j)) ta
def kAll (ls : List (List Int)) (n : Nat) (ta al be : Int) (j : Nat) : Int := wireA al be (kW ls n ta 0 j) (kW ls n ta 1 j) (kW ls n ta 2 j)
def kBy (ls : List (List Int)) (n : Nat) (ta al be by_ : Int) (j : Nat) : Int := scMul (kAll ls n ta al be j) by_
/-- The powers of Tau, times the zeros, by Delta. -/
def kZ (n : Nat) (ta di : Int) : Nat → Int
  | 0 => scMul (pAt (zerL n) ta) di
  | i + 1 => scMul (kZ n ta di i) ta
theorem kW_dp (ls : List (List Int)) (n : Nat) (ta : Int) (t j : Nat) : Dp (kW ls n ta t j - ev (pThr (colL ls n t j)) ta) := by
  unfold kW
  rw [pAt_ev]
  exact dp_sca _
theorem inv_dp {a : Int} (h : 1 ≤ a ∧ a ≤ 1008) : Dp (a * scInv a - 1) := by
  have h1 := dp_scMul a (scInv a)
  rw [scMul_inv (by omega) (by omega)] at h1
  exact h1.neg.of (by omega)
theorem kZ_dp (n : Nat) {ta de di : Int} (hdi : Dp (de * di - 1)) : ∀ i, Dp (de * kZ n ta di i - pAt (zerL n) ta * ta ^ i)
  | 0 => by
    have h1 := dp_scMul (pAt (zerL n) ta) di
    exact ((h1.mul de).add (hdi.mul (pAt (zerL n) ta))).of (by show de * scMul (pAt (zerL n) ta) di - _ = _; grind)
  | i + 1 => by
    have h1 := dp_scMul (kZ n ta di i) ta
    have h2 := kZ_dp n (ta := ta) hdi i
    exact ((h1.mul de).add (h2.mul ta)).of (by show de * scMul (kZ n ta di i) ta - _ = _; grind)

structure Tox (n : Nat) (ta al be ga de : Int) : Prop where
  tOk : 1 ≤ ta ∧ ta ≤ 1008
  aOk : 1 ≤ al ∧ al ≤ 1008
  bOk : 1 ≤ be ∧ be ≤ 1008
  gOk : 1 ≤ ga ∧ ga ≤ 1008
  dOk : 1 ≤ de ∧ de ≤ 1008
  up : (n : Int) < ta
theorem tox_iff {wi pu : Int} {n : Nat} {ls : List (List Int)} {ta al be ga de : Int} : toxB wi pu n ls ta al be ga de = true ↔ sysOk wi pu n ls = true ∧ Tox n ta al be ga de := by
  unfold toxB scalB
  simp only [Bool.and_eq_true, decide_eq_true_eq]
  constructor
  · rintro ⟨⟨⟨⟨⟨⟨h0, h1⟩, h2⟩, h3⟩, h4⟩, h5⟩, h6⟩
    exact ⟨h0, h1, h2, h3, h4, h5, h6⟩
  · rintro ⟨h0, h1, h2, h3, h4, h5, h6⟩
    exact ⟨⟨⟨⟨⟨⟨h0, h1⟩, h2⟩, h3⟩, h4⟩, h5⟩, h6⟩
/-- The sides of a right system. -/
structure Sides (wi pu : Int) (n : Nat) (ls : List (List Int)) (wn p : Nat) : Prop where
  wi : wi = (wn : Int)
  pu : pu = (p : Int)
  one : 1 ≤ wn ∧ wn ≤ 20
  told : p + 1 ≤ wn
  rows : 1 ≤ n ∧ n ≤ 16
theorem sides_of {wi pu : Int} {n : Nat} {ls : List (List Int)} (hok : sysOk wi pu n ls = true) : Sides wi pu n ls wi.toNat pu.toNat := by
  unfold sysOk at hok
  simp only [Bool.and_eq_true, decide_eq_true_eq] at hok
  obtain ⟨⟨h1, h2⟩, ⟨h3, h4⟩, ⟨h5, h6⟩, _⟩ := hok
  exact ⟨by omega, by omega, by omega, by omega, by omega⟩
theorem wide_len {m : List Int} {wi : Int} (h : wide m wi = true) : (m.length : Int) = wi := by
  unfold wide at h
  rw [Bool.and_eq_true] at h
  exact of_decide_eq_true h.1
theorem wide_at {m : List Int} {wi : Int} (h : wide m wi = true) (j : Nat) : 0 ≤ m.getD j 0 ∧ m.getD j 0 ≤ 1008 := by
  unfold wide at h
  rw [Bool.and_eq_true] at h
  by_cases hj : j < m.length
  · have h1 := List.all_eq_true.1 h.2 m[j] (List.getElem_mem hj)
    rw [getD_inZ hj]
    exact of_decide_eq_true h1
  · rw [getD_out (by omega)]; omega

/-- A point, and others so often each. -/
def wEach (S : Pt) (t : Nat → Int) (f : Nat → Pt) : Nat → Pt
  | 0 => S
  | k + 1 => pSum (wEach S t f k) (pTimes (t k) (f k))
theorem wEach_congr {S : Pt} {t t' : Nat → Int} {f f' : Nat → Pt} : ∀ k, (∀ j, j < k → t j = t' j) → (∀ j, j < k → f j = f' j) → wEach S t f k = wEach S t' f' k
  | 0, _, _ => rfl
  | k + 1, h1, h2 => by
    show pSum (wEach S t f k) (pTimes (t k) (f k)) = pSum (wEach S t' f' k) (pTimes (t' k) (f' k))
    rw [wEach_congr k (fun j hj => h1 j (by omega)) (fun j hj => h2 j (by omega)), h1 k (by omega), h2 k (by omega)]
theorem wEach_gx (s : Int) (t x : Nat → Int) : ∀ k, wEach (gx s) t (fun j => gx (x j)) k = gx (s + sumZ (fun j => t j * x j) k)
  | 0 => by show gx s = gx (s + 0); rw [Int.add_zero]
  | k + 1 => by
    show pSum (wEach (gx s) t (fun j => gx (x j)) k) (pTimes (t k) (gx (x k))) = gx (s + (sumZ (fun j => t j * x j) k + t k * x k))
    rw [wEach_gx s t x k, gx_times, gx_add, Int.add_assoc]
theorem key_times (k : Int) : pTimes k pB = gx k := by
  have h := gx_times k 1
  rw [gx_base, Int.mul_one] at h
  exact h
theorem gx_neg (x : Int) : pNeg (gx x) = gx (-x) := by
  have h0 : pSum (gx x) (gx (-x)) = pZ := by rw [gx_add, show x + -x = 0 by omega]; rfl
  unfold pSum at h0
  rw [pokB.2 (gx_ok x), pokB.2 (gx_ok (-x)), Bool.and_self, if_pos rfl] at h0
  have h1 : pAdd (pNeg (gx x)) (pAdd (gx x) (gx (-x))) = pAdd (pNeg (gx x)) pZ := by rw [h0]
  rw [← padd_assoc (pneg_ok (gx_ok x)) (gx_ok x) (gx_ok (-x)), padd_comm (pneg_ok (gx_ok x)) (gx_ok x), padd_neg (gx_ok x), zero_padd, padd_zero (pneg_ok (gx_ok x))] at h1
  exact h1.symm

end Go.Proofs.YthnahalboomkoaaGreat
