/-
  Texts of one's own, joined.
-/
import Derived.Test.YtbkfdafdchjakaaPrfMath2
import Derived.Test.YtbkfdafdchjakaaJoined9
import Derived.Test.YtbkfdafdchjakaaJoined14

/-
  Keys and proofs, in how often the base their points are: no program in here.
-/
namespace Go.Proofs.Ytbkfdafdchjakaa

theorem wire_dp (al be u v x : Int) : Dp (wireA al be u v x - (be * u + al * v + x)) := by
  have h1 := dp_scAdd (scAdd (scMul be u) (scMul al v)) x
  have h2 := dp_scAdd (scMul be u) (scMul al v)
  have h3 := dp_scMul be u
  have h4 := dp_scMul al v
  exact (((h1.add h2).add h3).add h4).of (by unfold wireA; omega)
theorem wire_sc (al be u v x : Int) : Sc (wireA al be u v x) := sc_add _ _
/-- The same by a product of lists. -/
theorem wire_dot (al be u v x : Int) : dotN (fun j => ([be, al, 1] : List Int).getD j 0) (fun j => ([u, v, x] : List Int).getD j 0) 3 = wireA al be u v x := by
  refine dp_small ?_ (sc_add _ _) (wire_sc _ _ _ _ _)
  show Dp (scAdd (scAdd (scAdd 0 (scMul be u)) (scMul al v)) (scMul 1 x) - _)
  have h0 := wire_dp al be u v x
  have h1 := dp_scAdd (scAdd (scAdd 0 (scMul be u)) (scMul al v)) (scMul 1 x)
  have h2 := dp_scAdd (scAdd 0 (scMul be u)) (scMul al v)
  have h3 := dp_scAdd 0 (scMul be u)
  have h4 := dp_scMul be u
  have h5 := dp_scMul al v
  have h6 := dp_scMul 1 x
  exact ((((((h1.add h2).add h3).add h4).add h5).add h6).sub h0).of (by omega)

/-- What a wire is at Tau. -/
def kW (ls : List (List Int)) (n : Nat) (ta : Int) (t j : Nat) : Int := pAt (pThr (colL ls n t j)) ta
def kAll (ls : List (List Int)) (n : Nat) (ta al be : Int) (j : Nat) : Int := wireA al be (kW ls n ta 0 j) (kW ls n ta 1 j) (kW ls n ta 2 j)
def kBy (ls : List (List Int)) (n : Nat) (ta al be by_ : Int) (j : Nat) : Int := scMul (kAll ls n ta al be j) by_
/-- The powers of Tau, times the zeros, by Delta. -/
def kZ (n : Nat) (ta di : Int) : Nat → Int
  | 0 => scMul (pAt (zerL n) ta) di
  | i + 1 => scMul (kZ n ta di i) ta
theorem kW_dp (ls : List (List Int)) (n : Nat) (ta : Int) (t j : Nat) : Dp (kW ls n ta t j - ev (pThr (colL ls n t j)) ta) := by
  unfold kW
  rw [pAt_ev]
  exact dp_sca _
theorem inv_dp {a : Int} (h : 1 ≤ a ∧ a ≤ 1008) : Dp (a * scInv a - 1) := by
  have h1 := dp_scMul a (scInv a)
  rw [scMul_inv (by omega) (by omega)] at h1
  exact h1.neg.of (by omega)
theorem kZ_dp (n : Nat) {ta de di : Int} (hdi : Dp (de * di - 1)) : ∀ i, Dp (de * kZ n ta di i - pAt (zerL n) ta * ta ^ i)
  | 0 => by
    have h1 := dp_scMul (pAt (zerL n) ta) di
    exact ((h1.mul de).add (hdi.mul (pAt (zerL n) ta))).of (by show de * scMul (pAt (zerL n) ta) di - _ = _; grind)
  | i + 1 => by
    have h1 := dp_scMul (kZ n ta di i) ta
    have h2 := kZ_dp n (ta := ta) hdi i
    exact ((h1.mul de).add (h2.mul ta)).of (by show de * scMul (kZ n ta di i) ta - _ = _; grind)

/-- What a side of a system is at Tau. -/
theorem side_dp (ls : List (List Int)) (n wn t : Nat) (m : List Int) (hn : n ≤ 16) (hm : m.length = wn) (ta : Int) : Dp (pAt (sideL ls n wn t m) ta - sumZ (fun j => m.getD j 0 * kW ls n ta t j) wn) := by
  have e := (sideL_small ls n wn t m hn hm).1
  have h1 := mixN_ev ta (qapN ls n t wn) m wn
  have h2 : Dp (sumZ (fun i => m.getD i 0 * ev ((qapN ls n t wn).getD i []) ta) wn - sumZ (fun j => m.getD j 0 * kW ls n ta t j) wn) := sumZ_congr wn fun j hj => by
    rw [qapN_at ls n t wn j hj]
    exact ((kW_dp ls n ta t j).mul (-(m.getD j 0))).of (by grind)
  have h3 : Dp (pAt (sideL ls n wn t m) ta - ev (sideL ls n wn t m) ta) := by rw [pAt_ev]; exact dp_sca _
  rw [e] at h3 ⊢
  exact ((h3.add h1).add h2).of (by omega)

structure Tox (n : Nat) (ta al be ga de : Int) : Prop where
  tOk : 1 ≤ ta ∧ ta ≤ 1008
  aOk : 1 ≤ al ∧ al ≤ 1008
  bOk : 1 ≤ be ∧ be ≤ 1008
  gOk : 1 ≤ ga ∧ ga ≤ 1008
  dOk : 1 ≤ de ∧ de ≤ 1008
  up : (n : Int) < ta
theorem tox_iff {wi pu : Int} {n : Nat} {ls : List (List Int)} {ta al be ga de : Int} : toxB wi pu n ls ta al be ga de = true ↔ sysOk wi pu n ls = true ∧ Tox n ta al be ga de := by
  unfold toxB scalB
  simp only [Bool.and_eq_true, decide_eq_true_eq]
  constructor
  · rintro ⟨⟨⟨⟨⟨⟨h0, h1⟩, h2⟩, h3⟩, h4⟩, h5⟩, h6⟩
    exact ⟨h0, h1, h2, h3, h4, h5, h6⟩
  · rintro ⟨h0, h1, h2, h3, h4, h5, h6⟩
    exact ⟨⟨⟨⟨⟨⟨h0, h1⟩, h2⟩, h3⟩, h4⟩, h5⟩, h6⟩
/-- The sides of a right system. -/
structure Sides (wi pu : Int) (n : Nat) (ls : List (List Int)) (wn p : Nat) : Prop where
  wi : wi = (wn : Int)
  pu : pu = (p : Int)
  one : 1 ≤ wn ∧ wn ≤ 20
  told : p + 1 ≤ wn
  rows : 1 ≤ n ∧ n ≤ 16
theorem sides_of {wi pu : Int} {n : Nat} {ls : List (List Int)} (hok : sysOk wi pu n ls = true) : Sides wi pu n ls wi.toNat pu.toNat := by
  unfold sysOk at hok
  simp only [Bool.and_eq_true, decide_eq_true_eq] at hok
  obtain ⟨⟨h1, h2⟩, ⟨h3, h4⟩, ⟨h5, h6⟩, _⟩ := hok
  exact ⟨by omega, by omega, by omega, by omega, by omega⟩
theorem wide_len {m : List Int} {wi : Int} (h : wide m wi = true) : (m.length : Int) = wi := by
  unfold wide at h
  rw [Bool.and_eq_true] at h
  exact of_decide_eq_true h.1
theorem wide_at {m : List Int} {wi : Int} (h : wide m wi = true) (j : Nat) : 0 ≤ m.getD j 0 ∧ m.getD j 0 ≤ 1008 := by
  unfold wide at h
  rw [Bool.and_eq_true] at h
  by_cases hj : j < m.length
  · have h1 := List.all_eq_true.1 h.2 m[j] (List.getElem_mem hj)
    rw [getD_inZ hj]
    exact of_decide_eq_true h1
  · rw [getD_out (by omega)]; omega

theorem quot_of {wi pu : Int} {n : Nat} {ls : List (List Int)} {m : List Int} (hR : Right wi pu n ls m) (hl : ls.length = n * 3) : quotB wi pu n ls m = true ∧ quotL wi pu n ls m = pQuo (numL (sideL ls n wi.toNat 0 m) (sideL ls n wi.toNat 1 m) (sideL ls n wi.toNat 2 m)) (zerL n) ∧ pRem (numL (sideL ls n wi.toNat 0 m) (sideL ls n wi.toNat 1 m) (sideL ls n wi.toNat 2 m)) (zerL n) = [] := by
  have h := quot_so wi pu n ls m hl hR.1 hR.2.1
  rw [hR.2.2] at h
  refine ⟨h, ?_, ?_⟩
  · unfold quotL; rw [if_pos h]; rfl
  · unfold quotB at h
    simp only [Bool.and_eq_true] at h
    exact List.isEmpty_iff.1 h.2.2
theorem quot_short {wi pu : Int} {n : Nat} {ls : List (List Int)} {m : List Int} (hR : Right wi pu n ls m) (hl : ls.length = n * 3) : (quotL wi pu n ls m).length < n := by
  have hS := sides_of hR.1
  have hml : m.length = wi.toNat := by have := wide_len hR.2.1; omega
  rw [(quot_of hR hl).2.1]
  exact quo_lt hS.rows.1 hS.rows.2 (sideL_small ls n _ 0 m hS.rows.2 hml).2 (sideL_small ls n _ 1 m hS.rows.2 hml).2 (sideL_small ls n _ 2 m hS.rows.2 hml).2

/-- What is proven of a right system: A, B, C by how often the base they are. -/
def pA (ls : List (List Int)) (n wn : Nat) (ta al de r : Int) (m : List Int) : Int := al + sumZ (fun j => m.getD j 0 * kW ls n ta 0 j) wn + r * de
def pBn (ls : List (List Int)) (n wn : Nat) (ta be de z : Int) (m : List Int) : Int := be + sumZ (fun j => m.getD j 0 * kW ls n ta 1 j) wn + z * de
def pIn (ls : List (List Int)) (n p : Nat) (ta al be ga : Int) (m : Nat → Int) : Int := sumZ (fun j => m j * kBy ls n ta al be (scInv ga) j) (p + 1)
def pC (wi pu : Int) (ls : List (List Int)) (n wn p : Nat) (ta al be de r z : Int) (m : List Int) : Int := sumZ (fun j => m.getD (p + 1 + j) 0 * kBy ls n ta al be (scInv de) (p + 1 + j)) (wn - p - 1) + sumZ (fun i => (quotL wi pu n ls m).getD i 0 * kZ n ta (scInv de) i) (quotL wi pu n ls m).length + z * pA ls n wn ta al de r m + r * pBn ls n wn ta be de z m + -(r * z) * de

theorem proves_right {wi pu : Int} {n wn p : Nat} {ls : List (List Int)} {m : List Int} (hR : Right wi pu n ls m) (hl : ls.length = n * 3) (hS : Sides wi pu n ls wn p) {ta al be ga de : Int} (hT : Tox n ta al be ga de) (r z : Int) :
    Dp (pA ls n wn ta al de r m * pBn ls n wn ta be de z m - (al * be + pIn ls n p ta al be ga (fun j => m.getD j 0) * ga + pC wi pu ls n wn p ta al be de r z m * de)) := by
  have hwn : wi.toNat = wn := by rw [hS.wi]; simp
  have hml : m.length = wn := by have := wide_len hR.2.1; have := hS.wi; omega
  have hq := quot_of hR hl
  have S0 := sideL_small ls n wn 0 m hS.rows.2 hml
  have S1 := sideL_small ls n wn 1 m hS.rows.2 hml
  have S2 := sideL_small ls n wn 2 m hS.rows.2 hml
  rw [hwn] at hq
  have hqa := quo_at hS.rows.1 hS.rows.2 S0.2 S1.2 S2.2 hq.2.2 ta
  rw [← hq.2.1] at hqa
  have d0 := side_dp ls n wn 0 m hS.rows.2 hml ta
  have d1 := side_dp ls n wn 1 m hS.rows.2 hml ta
  have d2 := side_dp ls n wn 2 m hS.rows.2 hml ta
  have hqd : Dp (pAt (sideL ls n wn 0 m) ta * pAt (sideL ls n wn 1 m) ta - (pAt (sideL ls n wn 2 m) ta + pAt (quotL wi pu n ls m) ta * pAt (zerL n) ta)) := by
    have a1 := dp_scMul (pAt (sideL ls n wn 0 m) ta) (pAt (sideL ls n wn 1 m) ta)
    have a2 := dp_scAdd (pAt (sideL ls n wn 2 m) ta) (scMul (pAt (quotL wi pu n ls m) ta) (pAt (zerL n) ta))
    have a3 := dp_scMul (pAt (quotL wi pu n ls m) ta) (pAt (zerL n) ta)
    rw [hqa] at a1
    exact ((a2.add a3).sub a1).of (by omega)
  have d3 : Dp (pAt (quotL wi pu n ls m) ta - sumZ (fun i => (quotL wi pu n ls m).getD i 0 * ta ^ i) (quotL wi pu n ls m).length) := by
    rw [← ev_sum, pAt_ev]
    exact dp_sca _
  refine proves_sum (gi := scInv ga) (di := scInv de) (ta := ta) (t := pAt (zerL n) ta) (r := r) (z := z) hS.told (fun j => kW ls n ta 0 j) (fun j => kW ls n ta 1 j) (fun j => kW ls n ta 2 j) (fun j => kAll ls n ta al be j) (fun j => kBy ls n ta al be (scInv ga) j) (fun j => kBy ls n ta al be (scInv de) (p + 1 + j)) (fun i => kZ n ta (scInv de) i) (fun j => m.getD j 0) (fun i => (quotL wi pu n ls m).getD i 0) (hl := (quotL wi pu n ls m).length) (fun j _ => wire_dp _ _ _ _ _) (inv_dp hT.gOk) (inv_dp hT.dOk) (fun j _ => dp_scMul _ _) (fun j _ => dp_scMul _ _) (fun i _ => kZ_dp n (inv_dp hT.dOk) i) ?_
  show Dp (sumZ (fun j => m.getD j 0 * kW ls n ta 0 j) wn * sumZ (fun j => m.getD j 0 * kW ls n ta 1 j) wn - (sumZ (fun j => m.getD j 0 * kW ls n ta 2 j) wn + sumZ (fun i => (quotL wi pu n ls m).getD i 0 * ta ^ i) (quotL wi pu n ls m).length * pAt (zerL n) ta))
  generalize sumZ (fun j => m.getD j 0 * kW ls n ta 0 j) wn = U at *
  generalize sumZ (fun j => m.getD j 0 * kW ls n ta 1 j) wn = V at *
  generalize sumZ (fun j => m.getD j 0 * kW ls n ta 2 j) wn = X at *
  generalize sumZ (fun i => (quotL wi pu n ls m).getD i 0 * ta ^ i) (quotL wi pu n ls m).length = H at *
  generalize pAt (sideL ls n wn 0 m) ta = U' at *
  generalize pAt (sideL ls n wn 1 m) ta = V' at *
  generalize pAt (sideL ls n wn 2 m) ta = X' at *
  generalize pAt (quotL wi pu n ls m) ta = H' at *
  generalize pAt (zerL n) ta = t at *
  exact (((hqd.sub (d0.mul V')).sub (d1.mul U)).add d2 |>.add (d3.mul t)).of (by grind)

/-- A point, and others so often each. -/
def wEach (S : Pt) (t : Nat → Int) (f : Nat → Pt) : Nat → Pt
  | 0 => S
  | k + 1 => pSum (wEach S t f k) (pTimes (t k) (f k))
theorem wEach_congr {S : Pt} {t t' : Nat → Int} {f f' : Nat → Pt} : ∀ k, (∀ j, j < k → t j = t' j) → (∀ j, j < k → f j = f' j) → wEach S t f k = wEach S t' f' k
  | 0, _, _ => rfl
  | k + 1, h1, h2 => by
    show pSum (wEach S t f k) (pTimes (t k) (f k)) = pSum (wEach S t' f' k) (pTimes (t' k) (f' k))
    rw [wEach_congr k (fun j hj => h1 j (by omega)) (fun j hj => h2 j (by omega)), h1 k (by omega), h2 k (by omega)]
theorem wEach_gx (s : Int) (t x : Nat → Int) : ∀ k, wEach (gx s) t (fun j => gx (x j)) k = gx (s + sumZ (fun j => t j * x j) k)
  | 0 => by show gx s = gx (s + 0); rw [Int.add_zero]
  | k + 1 => by
    show pSum (wEach (gx s) t (fun j => gx (x j)) k) (pTimes (t k) (gx (x k))) = gx (s + (sumZ (fun j => t j * x j) k + t k * x k))
    rw [wEach_gx s t x k, gx_times, gx_add, Int.add_assoc]
theorem key_times (k : Int) : pTimes k pB = gx k := by
  have h := gx_times k 1
  rw [gx_base, Int.mul_one] at h
  exact h
theorem gx_neg (x : Int) : pNeg (gx x) = gx (-x) := by
  have h0 : pSum (gx x) (gx (-x)) = pZ := by rw [gx_add, show x + -x = 0 by omega]; rfl
  unfold pSum at h0
  rw [pokB.2 (gx_ok x), pokB.2 (gx_ok (-x)), Bool.and_self, if_pos rfl] at h0
  have h1 : pAdd (pNeg (gx x)) (pAdd (gx x) (gx (-x))) = pAdd (pNeg (gx x)) pZ := by rw [h0]
  rw [← padd_assoc (pneg_ok (gx_ok x)) (gx_ok x) (gx_ok (-x)), padd_comm (pneg_ok (gx_ok x)) (gx_ok x), padd_neg (gx_ok x), zero_padd, padd_zero (pneg_ok (gx_ok x))] at h1
  exact h1.symm

end Go.Proofs.Ytbkfdafdchjakaa

/-
  A proof without a witness, in how often the base its points are: no program in here.
-/
namespace Go.Proofs.Ytbkfdafdchjakaa

theorem dot_dp (f g : Nat → Int) : ∀ k, Dp (dotN f g k - sumZ (fun j => f j * g j) k)
  | 0 => dp_zero.of (by show (0 : Int) - 0 = 0; omega)
  | k + 1 => by
    have h1 := dp_scAdd (dotN f g k) (scMul (f k) (g k))
    have h2 := dp_scMul (f k) (g k)
    have h3 := dot_dp f g k
    exact ((h1.add h2).add h3).of (by show scAdd (dotN f g k) (scMul (f k) (g k)) - (sumZ (fun j => f j * g j) k + f k * g k) = _; omega)
/-- What is told, times what each wire is. -/
def fkSum (ls : List (List Int)) (n : Nat) (ta al be : Int) (m : Nat → Int) (p : Nat) : Int := kAll ls n ta al be 0 + sumZ (fun j => m j * kAll ls n ta al be (j + 1)) p
def fkV (ls : List (List Int)) (n : Nat) (ta al be de : Int) (m : Nat → Int) (p : Nat) (x y : Int) : Int := (x * y + -(al * be) + -(fkSum ls n ta al be m p)) * scInv de
/-- The specification's sum, one by one. -/
def fkS (ls : List (List Int)) (n : Nat) (ta al be : Int) (m : Nat → Int) : Nat → Int
  | 0 => kAll ls n ta al be 0
  | j + 1 => scAdd (fkS ls n ta al be m j) (scMul (m j) (kAll ls n ta al be (j + 1)))
theorem fkS_dp (ls : List (List Int)) (n : Nat) (ta al be : Int) (m : Nat → Int) : ∀ p, Dp (fkS ls n ta al be m p - fkSum ls n ta al be m p)
  | 0 => dp_zero.of (by show kAll ls n ta al be 0 - (kAll ls n ta al be 0 + 0) = 0; omega)
  | p + 1 => by
    have h1 := dp_scAdd (fkS ls n ta al be m p) (scMul (m p) (kAll ls n ta al be (p + 1)))
    have h2 := dp_scMul (m p) (kAll ls n ta al be (p + 1))
    have h3 := fkS_dp ls n ta al be m p
    unfold fkSum at h3 ⊢
    exact ((h1.add h2).add h3).of (by show scAdd (fkS ls n ta al be m p) (scMul (m p) (kAll ls n ta al be (p + 1))) - (kAll ls n ta al be 0 + (sumZ (fun j => m j * kAll ls n ta al be (j + 1)) p + m p * kAll ls n ta al be (p + 1))) = _; omega)
/-- What the specification comes to. -/
theorem fkSpec_dp (ls : List (List Int)) (n : Nat) (ta al be de : Int) (m : Nat → Int) (p : Nat) (x y : Int) : Dp (scMul (scAdd (scAdd (scMul x y) (scNeg (scMul al be))) (scNeg (fkS ls n ta al be m p))) (scInv de) - fkV ls n ta al be de m p x y) := by
  have h1 := dp_scMul (scAdd (scAdd (scMul x y) (scNeg (scMul al be))) (scNeg (fkS ls n ta al be m p))) (scInv de)
  have h2 := dp_scAdd (scAdd (scMul x y) (scNeg (scMul al be))) (scNeg (fkS ls n ta al be m p))
  have h3 := dp_scAdd (scMul x y) (scNeg (scMul al be))
  have h4 := dp_scMul x y
  have h5 := dp_scNeg (scMul al be)
  have h6 := dp_scMul al be
  have h7 := dp_scNeg (fkS ls n ta al be m p)
  have h8 := fkS_dp ls n ta al be m p
  unfold fkV
  generalize fkSum ls n ta al be m p = S at *
  generalize fkS ls n ta al be m p = S1 at *
  generalize scNeg S1 = S2 at *
  generalize scMul al be = A1 at *
  generalize scNeg A1 = A2 at *
  generalize scMul x y = X1 at *
  generalize scAdd X1 A2 = B1 at *
  generalize scAdd B1 S2 = C1 at *
  generalize scInv de = D at *
  exact (h1.add ((((((h2.add h3).add h4).add h5).sub h6).add h7).sub h8 |>.mul D)).of (by grind)
/-- The inputs are the sum, by Gamma. -/
theorem fkIn_dp (ls : List (List Int)) (n : Nat) (ta al be gi : Int) (m : Nat → Int) (p : Nat) : Dp (scAdd (kBy ls n ta al be gi 0) (dotN (fun j => kBy ls n ta al be gi (j + 1)) m p) - gi * fkSum ls n ta al be m p) := by
  have h1 := dp_scAdd (kBy ls n ta al be gi 0) (dotN (fun j => kBy ls n ta al be gi (j + 1)) m p)
  have h2 : Dp (kBy ls n ta al be gi 0 - kAll ls n ta al be 0 * gi) := dp_scMul _ _
  have h3 := dot_dp (fun j => kBy ls n ta al be gi (j + 1)) m p
  have h4 : Dp (sumZ (fun j => kBy ls n ta al be gi (j + 1) * m j) p - sumZ (fun j => gi * (m j * kAll ls n ta al be (j + 1))) p) := sumZ_congr p fun j _ => by
    have h : Dp (kBy ls n ta al be gi (j + 1) - kAll ls n ta al be (j + 1) * gi) := dp_scMul _ _
    exact (h.mul (m j)).of (by grind)
  rw [sumZ_mul] at h4
  unfold fkSum
  generalize sumZ (fun j => m j * kAll ls n ta al be (j + 1)) p = S at *
  generalize sumZ (fun j => kBy ls n ta al be gi (j + 1) * m j) p = S1 at *
  exact (((h1.add h2).add h3).add h4).of (by grind)
/-- What the program comes to. -/
theorem fkProg_dp (ls : List (List Int)) (n : Nat) (ta al be : Int) {ga : Int} (de : Int) (hg : 1 ≤ ga ∧ ga ≤ 1008) (m : Nat → Int) (p : Nat) (x y : Int) : Dp (scMul (dotN (fun j => ([x, -al, -ga] : List Int).getD j 0) (fun j => ([y, be, scAdd (kBy ls n ta al be (scInv ga) 0) (dotN (fun j => kBy ls n ta al be (scInv ga) (j + 1)) m p)] : List Int).getD j 0) 3) (scInv de) - fkV ls n ta al be de m p x y) := by
  have h1 := fkIn_dp ls n ta al be (scInv ga) m p
  have h2 := inv_dp hg
  generalize scAdd (kBy ls n ta al be (scInv ga) 0) (dotN (fun j => kBy ls n ta al be (scInv ga) (j + 1)) m p) = I at *
  have h3 := dot_dp (fun j => ([x, -al, -ga] : List Int).getD j 0) (fun j => ([y, be, I] : List Int).getD j 0) 3
  have h4 := dp_scMul (dotN (fun j => ([x, -al, -ga] : List Int).getD j 0) (fun j => ([y, be, I] : List Int).getD j 0) 3) (scInv de)
  have e3 : sumZ (fun j => ([x, -al, -ga] : List Int).getD j 0 * ([y, be, I] : List Int).getD j 0) 3 = x * y + -al * be + -ga * I := by
    show 0 + x * y + -al * be + -ga * I = _
    omega
  rw [e3] at h3
  unfold fkV
  generalize dotN (fun j => ([x, -al, -ga] : List Int).getD j 0) (fun j => ([y, be, I] : List Int).getD j 0) 3 = M at *
  generalize fkSum ls n ta al be m p = S at *
  generalize scInv ga = gi at *
  generalize scInv de = di at *
  exact (h4.add ((h3.sub (h1.mul ga)).sub (h2.mul S) |>.mul di)).of (by grind)
/-- Whether one may. -/
def fkB (wi pu : Int) (n : Nat) (ls : List (List Int)) (ta al be ga de : Int) (ml : Nat) (x y : Int) : Bool := toxB wi pu n ls ta al be ga de && (scalB x && (scalB y && decide ((ml : Int) = pu)))
def fkPt (q : Bool) (x : Int) : Pt := if q then gx x else (0, 0, false)

end Go.Proofs.Ytbkfdafdchjakaa
