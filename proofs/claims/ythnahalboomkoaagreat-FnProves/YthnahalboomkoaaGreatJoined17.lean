/-
  Texts of one's own, joined.
-/
import Derived.Test.YthnahalboomkoaaGreatPrfMath2
import Derived.Test.YthnahalboomkoaaGreatJoined12
import Derived.Test.YthnahalboomkoaaGreatJoined16
import Derived.Test.YthnahalboomkoaaGreatJoined4
import Derived.Test.YthnahalboomkoaaGreatJoined6
import Derived.Test.YthnahalboomkoaaGreatJoined5
import Derived.Maps.AppendAt

/-
  Keys and proofs, in how often the base their points are: no program in here.
-/
namespace Go.Proofs.YthnahalboomkoaaGreat

theorem wire_dp (al be u v x : Int) : Dp (wireA al be u v x - (be * u + al * v + x)) := by
  have h1 := dp_scAdd (scAdd (scMul be u) (scMul al v)) x
  have h2 := dp_scAdd (scMul be u) (scMul al v)
  have h3 := dp_scMul be u
  have h4 := dp_scMul al v
  exact (((h1.add h2).add h3).add h4).of (by unfold wireA; omega)
theorem wire_sc (al be u v x : Int) : Sc (wireA al be u v x) := sc_add _ _
/-- The same by a product of lists. -/
theorem wire_dot (al be u v x : Int) : dotN (fun j => ([be, al, 1] : List Int).getD j 0) (fun j => ([u, v, x] : List Int).getD j 0) 3 = wireA al be u v x := by
  refine dp_small ?_ (sc_add _ _) (wire_sc _ _ _ _ _)
  show Dp (scAdd (scAdd (scAdd 0 (scMul be u)) (scMul al v)) (scMul 1 x) - _)
  have h0 := wire_dp al be u v x
  have h1 := dp_scAdd (scAdd (scAdd 0 (scMul be u)) (scMul al v)) (scMul 1 x)
  have h2 := dp_scAdd (scAdd 0 (scMul be u)) (scMul al v)
  have h3 := dp_scAdd 0 (scMul be u)
  have h4 := dp_scMul be u
  have h5 := dp_scMul al v
  have h6 := dp_scMul 1 x
  exact ((((((h1.add h2).add h3).add h4).add h5).add h6).sub h0).of (by omega)

/-- What a wire is at Tau. -/
def kW (ls : List (List Int)) (n : Nat) (ta : Int) (t j : Nat) : Int := pAt (pThr (colL ls n t j)) ta
def kAll (ls : List (List Int)) (n : Nat) (ta al be : Int) (j : Nat) : Int := wireA al be (kW ls n ta 0 j) (kW ls n ta 1 j) (kW ls n ta 2 j)
def kBy (ls : List (List Int)) (n : Nat) (ta al be by_ : Int) (j : Nat) : Int := scMul (kAll ls n ta al be j) by_
/-- The powers of Tau, times the zeros, by Delta. -/
def kZ (n : Nat) (ta di : Int) : Nat → Int
  | 0 => scMul (pAt (zerL n) ta) di
  | i + 1 => scMul (kZ n ta di i) ta
theorem kW_dp (ls : List (List Int)) (n : Nat) (ta : Int) (t j : Nat) : Dp (kW ls n ta t j - ev (pThr (colL ls n t j)) ta) := by
  unfold kW
  rw [pAt_ev]
  exact dp_sca _
theorem inv_dp {a : Int} (h : 1 ≤ a ∧ a ≤ 1008) : Dp (a * scInv a - 1) := by
  have h1 := dp_scMul a (scInv a)
  rw [scMul_inv (by omega) (by omega)] at h1
  exact h1.neg.of (by omega)
theorem kZ_dp (n : Nat) {ta de di : Int} (hdi : Dp (de * di - 1)) : ∀ i, Dp (de * kZ n ta di i - pAt (zerL n) ta * ta ^ i)
  | 0 => by
    have h1 := dp_scMul (pAt (zerL n) ta) di
    exact ((h1.mul de).add (hdi.mul (pAt (zerL n) ta))).of (by show de * scMul (pAt (zerL n) ta) di - _ = _; grind)
  | i + 1 => by
    have h1 := dp_scMul (kZ n ta di i) ta
    have h2 := kZ_dp n (ta := ta) hdi i
    exact ((h1.mul de).add (h2.mul ta)).of (by show de * scMul (kZ n ta di i) ta - _ = _; grind)

/-- What a side of a system is at Tau. -/
theorem side_dp (ls : List (List Int)) (n wn t : Nat) (m : List Int) (hn : n ≤ 16) (hm : m.length = wn) (ta : Int) : Dp (pAt (sideL ls n wn t m) ta - sumZ (fun j => m.getD j 0 * kW ls n ta t j) wn) := by
  have e := (sideL_small ls n wn t m hn hm).1
  have h1 := mixN_ev ta (qapN ls n t wn) m wn
  have h2 : Dp (sumZ (fun i => m.getD i 0 * ev ((qapN ls n t wn).getD i []) ta) wn - sumZ (fun j => m.getD j 0 * kW ls n ta t j) wn) := sumZ_congr wn fun j hj => by
    rw [qapN_at ls n t wn j hj]
    exact ((kW_dp ls n ta t j).mul (-(m.getD j 0))).of (by grind)
  have h3 : Dp (pAt (sideL ls n wn t m) ta - ev (sideL ls n wn t m) ta) := by rw [pAt_ev]; exact dp_sca _
  rw [e] at h3 ⊢
  exact ((h3.add h1).add h2).of (by omega)

structure Tox (n : Nat) (ta al be ga de : Int) : Prop where
  tOk : 1 ≤ ta ∧ ta ≤ 1008
  aOk : 1 ≤ al ∧ al ≤ 1008
  bOk : 1 ≤ be ∧ be ≤ 1008
  gOk : 1 ≤ ga ∧ ga ≤ 1008
  dOk : 1 ≤ de ∧ de ≤ 1008
  up : (n : Int) < ta
theorem tox_iff {wi pu : Int} {n : Nat} {ls : List (List Int)} {ta al be ga de : Int} : toxB wi pu n ls ta al be ga de = true ↔ sysOk wi pu n ls = true ∧ Tox n ta al be ga de := by
  unfold toxB scalB
  simp only [Bool.and_eq_true, decide_eq_true_eq]
  constructor
  · rintro ⟨⟨⟨⟨⟨⟨h0, h1⟩, h2⟩, h3⟩, h4⟩, h5⟩, h6⟩
    exact ⟨h0, h1, h2, h3, h4, h5, h6⟩
  · rintro ⟨h0, h1, h2, h3, h4, h5, h6⟩
    exact ⟨⟨⟨⟨⟨⟨h0, h1⟩, h2⟩, h3⟩, h4⟩, h5⟩, h6⟩
/-- The sides of a right system. -/
structure Sides (wi pu : Int) (n : Nat) (ls : List (List Int)) (wn p : Nat) : Prop where
  wi : wi = (wn : Int)
  pu : pu = (p : Int)
  one : 1 ≤ wn ∧ wn ≤ 20
  told : p + 1 ≤ wn
  rows : 1 ≤ n ∧ n ≤ 16
theorem sides_of {wi pu : Int} {n : Nat} {ls : List (List Int)} (hok : sysOk wi pu n ls = true) : Sides wi pu n ls wi.toNat pu.toNat := by
  unfold sysOk at hok
  simp only [Bool.and_eq_true, decide_eq_true_eq] at hok
  obtain ⟨⟨h1, h2⟩, ⟨h3, h4⟩, ⟨h5, h6⟩, _⟩ := hok
  exact ⟨by omega, by omega, by omega, by omega, by omega⟩
theorem wide_len {m : List Int} {wi : Int} (h : wide m wi = true) : (m.length : Int) = wi := by
  unfold wide at h
  rw [Bool.and_eq_true] at h
  exact of_decide_eq_true h.1
theorem wide_at {m : List Int} {wi : Int} (h : wide m wi = true) (j : Nat) : 0 ≤ m.getD j 0 ∧ m.getD j 0 ≤ 1008 := by
  unfold wide at h
  rw [Bool.and_eq_true] at h
  by_cases hj : j < m.length
  · have h1 := List.all_eq_true.1 h.2 m[j] (List.getElem_mem hj)
    rw [getD_inZ hj]
    exact of_decide_eq_true h1
  · rw [getD_out (by omega)]; omega

theorem quot_of {wi pu : Int} {n : Nat} {ls : List (List Int)} {m : List Int} (hR : Right wi pu n ls m) (hl : ls.length = n * 3) : quotB wi pu n ls m = true ∧ quotL wi pu n ls m = pQuo (numL (sideL ls n wi.toNat 0 m) (sideL ls n wi.toNat 1 m) (sideL ls n wi.toNat 2 m)) (zerL n) ∧ pRem (numL (sideL ls n wi.toNat 0 m) (sideL ls n wi.toNat 1 m) (sideL ls n wi.toNat 2 m)) (zerL n) = [] := by
  have h := quot_so wi pu n ls m hl hR.1 hR.2.1
  rw [hR.2.2] at h
  refine ⟨h, ?_, ?_⟩
  · unfold quotL; rw [if_pos h]; rfl
  · unfold quotB at h
    simp only [Bool.and_eq_true] at h
    exact List.isEmpty_iff.1 h.2.2
theorem quot_short {wi pu : Int} {n : Nat} {ls : List (List Int)} {m : List Int} (hR : Right wi pu n ls m) (hl : ls.length = n * 3) : (quotL wi pu n ls m).length < n := by
  have hS := sides_of hR.1
  have hml : m.length = wi.toNat := by have := wide_len hR.2.1; omega
  rw [(quot_of hR hl).2.1]
  exact quo_lt hS.rows.1 hS.rows.2 (sideL_small ls n _ 0 m hS.rows.2 hml).2 (sideL_small ls n _ 1 m hS.rows.2 hml).2 (sideL_small ls n _ 2 m hS.rows.2 hml).2

/-- What is proven of a right system: A, B, C by how often the base they are. -/
def pA (ls : List (List Int)) (n wn : Nat) (ta al de r : Int) (m : List Int) : Int := al + sumZ (fun j => m.getD j 0 * kW ls n ta 0 j) wn + r * de
def pBn (ls : List (List Int)) (n wn : Nat) (ta be de z : Int) (m : List Int) : Int := be + sumZ (fun j => m.getD j 0 * kW ls n ta 1 j) wn + z * de
def pIn (ls : List (List Int)) (n p : Nat) (ta al be ga : Int) (m : Nat → Int) : Int := sumZ (fun j => m j * kBy ls n ta al be (scInv ga) j) (p + 1)
def pC (wi pu : Int) (ls : List (List Int)) (n wn p : Nat) (ta al be de r z : Int) (m : List Int) : Int := sumZ (fun j => m.getD (p + 1 + j) 0 * kBy ls n ta al be (scInv de) (p + 1 + j)) (wn - p - 1) + sumZ (fun i => (quotL wi pu n ls m).getD i 0 * kZ n ta (scInv de) i) (quotL wi pu n ls m).length + z * pA ls n wn ta al de r m + r * pBn ls n wn ta be de z m + -(r * z) * de

theorem proves_right {wi pu : Int} {n wn p : Nat} {ls : List (List Int)} {m : List Int} (hR : Right wi pu n ls m) (hl : ls.length = n * 3) (hS : Sides wi pu n ls wn p) {ta al be ga de : Int} (hT : Tox n ta al be ga de) (r z : Int) :
    Dp (pA ls n wn ta al de r m * pBn ls n wn ta be de z m - (al * be + pIn ls n p ta al be ga (fun j => m.getD j 0) * ga + pC wi pu ls n wn p ta al be de r z m * de)) := by
  have hwn : wi.toNat = wn := by rw [hS.wi]; simp
  have hml : m.length = wn := by have := wide_len hR.2.1; have := hS.wi; omega
  have hq := quot_of hR hl
  have S0 := sideL_small ls n wn 0 m hS.rows.2 hml
  have S1 := sideL_small ls n wn 1 m hS.rows.2 hml
  have S2 := sideL_small ls n wn 2 m hS.rows.2 hml
  rw [hwn] at hq
  have hqa := quo_at hS.rows.1 hS.rows.2 S0.2 S1.2 S2.2 hq.2.2 ta
  rw [← hq.2.1] at hqa
  have d0 := side_dp ls n wn 0 m hS.rows.2 hml ta
  have d1 := side_dp ls n wn 1 m hS.rows.2 hml ta
  have d2 := side_dp ls n wn 2 m hS.rows.2 hml ta
  have hqd : Dp (pAt (sideL ls n wn 0 m) ta * pAt (sideL ls n wn 1 m) ta - (pAt (sideL ls n wn 2 m) ta + pAt (quotL wi pu n ls m) ta * pAt (zerL n) ta)) := by
    have a1 := dp_scMul (pAt (sideL ls n wn 0 m) ta) (pAt (sideL ls n wn 1 m) ta)
    have a2 := dp_scAdd (pAt (sideL ls n wn 2 m) ta) (scMul (pAt (quotL wi pu n ls m) ta) (pAt (zerL n) ta))
    have a3 := dp_scMul (pAt (quotL wi pu n ls m) ta) (pAt (zerL n) ta)
    rw [hqa] at a1
    exact ((a2.add a3).sub a1).of (by omega)
  have d3 : Dp (pAt (quotL wi pu n ls m) ta - sumZ (fun i => (quotL wi pu n ls m).getD i 0 * ta ^ i) (quotL wi pu n ls m).length) := by
    rw [← ev_sum, pAt_ev]
    exact dp_sca _
  refine proves_sum (gi := scInv ga) (di := scInv de) (ta := ta) (t := pAt (zerL n) ta) (r := r) (z := z) hS.told (fun j => kW ls n ta 0 j) (fun j => kW ls n ta 1 j) (fun j => kW ls n ta 2 j) (fun j => kAll ls n ta al be j) (fun j => kBy ls n ta al be (scInv ga) j) (fun j => kBy ls n ta al be (scInv de) (p + 1 + j)) (fun i => kZ n ta (scInv de) i) (fun j => m.getD j 0) (fun i => (quotL wi pu n ls m).getD i 0) (hl := (quotL wi pu n ls m).length) (fun j _ => wire_dp _ _ _ _ _) (inv_dp hT.gOk) (inv_dp hT.dOk) (fun j _ => dp_scMul _ _) (fun j _ => dp_scMul _ _) (fun i _ => kZ_dp n (inv_dp hT.dOk) i) ?_
  show Dp (sumZ (fun j => m.getD j 0 * kW ls n ta 0 j) wn * sumZ (fun j => m.getD j 0 * kW ls n ta 1 j) wn - (sumZ (fun j => m.getD j 0 * kW ls n ta 2 j) wn + sumZ (fun i => (quotL wi pu n ls m).getD i 0 * ta ^ i) (quotL wi pu n ls m).length * pAt (zerL n) ta))
  generalize sumZ (fun j => m.getD j 0 * kW ls n ta 0 j) wn = U at *
  generalize sumZ (fun j => m.getD j 0 * kW ls n ta 1 j) wn = V at *
  generalize sumZ (fun j => m.getD j 0 * kW ls n ta 2 j) wn = X at *
  generalize sumZ (fun i => (quotL wi pu n ls m).getD i 0 * ta ^ i) (quotL wi pu n ls m).length = H at *
  generalize pAt (sideL ls n wn 0 m) ta = U' at *
  generalize pAt (sideL ls n wn 1 m) ta = V' at *
  generalize pAt (sideL ls n wn 2 m) ta = X' at *
  generalize pAt (quotL wi pu n ls m) ta = H' at *
  generalize pAt (zerL n) ta = t at *
  exact (((hqd.sub (d0.mul V')).sub (d1.mul U)).add d2 |>.add (d3.mul t)).of (by grind)

/-- A point, and others so often each. -/
def wEach (S : Pt) (t : Nat → Int) (f : Nat → Pt) : Nat → Pt
  | 0 => S
  | k + 1 => pSum (wEach S t f k) (pTimes (t k) (f k))
theorem wEach_congr {S : Pt} {t t' : Nat → Int} {f f' : Nat → Pt} : ∀ k, (∀ j, j < k → t j = t' j) → (∀ j, j < k → f j = f' j) → wEach S t f k = wEach S t' f' k
  | 0, _, _ => rfl
  | k + 1, h1, h2 => by
    show pSum (wEach S t f k) (pTimes (t k) (f k)) = pSum (wEach S t' f' k) (pTimes (t' k) (f' k))
    rw [wEach_congr k (fun j hj => h1 j (by omega)) (fun j hj => h2 j (by omega)), h1 k (by omega), h2 k (by omega)]
theorem wEach_gx (s : Int) (t x : Nat → Int) : ∀ k, wEach (gx s) t (fun j => gx (x j)) k = gx (s + sumZ (fun j => t j * x j) k)
  | 0 => by show gx s = gx (s + 0); rw [Int.add_zero]
  | k + 1 => by
    show pSum (wEach (gx s) t (fun j => gx (x j)) k) (pTimes (t k) (gx (x k))) = gx (s + (sumZ (fun j => t j * x j) k + t k * x k))
    rw [wEach_gx s t x k, gx_times, gx_add, Int.add_assoc]
theorem key_times (k : Int) : pTimes k pB = gx k := by
  have h := gx_times k 1
  rw [gx_base, Int.mul_one] at h
  exact h
theorem gx_neg (x : Int) : pNeg (gx x) = gx (-x) := by
  have h0 : pSum (gx x) (gx (-x)) = pZ := by rw [gx_add, show x + -x = 0 by omega]; rfl
  unfold pSum at h0
  rw [pokB.2 (gx_ok x), pokB.2 (gx_ok (-x)), Bool.and_self, if_pos rfl] at h0
  have h1 : pAdd (pNeg (gx x)) (pAdd (gx x) (gx (-x))) = pAdd (pNeg (gx x)) pZ := by rw [h0]
  rw [← padd_assoc (pneg_ok (gx_ok x)) (gx_ok x) (gx_ok (-x)), padd_comm (pneg_ok (gx_ok x)) (gx_ok x), padd_neg (gx_ok x), zero_padd, padd_zero (pneg_ok (gx_ok x))] at h1
  exact h1.symm

end Go.Proofs.YthnahalboomkoaaGreat

/-
  Rows of points that are owned.
-/
namespace Go.Proofs.YthnahalboomkoaaGreat
open Go.RowKit

/-- The cells of a list of points. -/
def ptsV (l : List Pt) : List Value := l.flatMap fun P => [.int .i64 P.1, .int .i64 P.2.1, .bool P.2.2]

theorem ptsV_append (a b : List Pt) : ptsV (a ++ b) = ptsV a ++ ptsV b := by simp [ptsV]

theorem ptsV_at : ∀ (l : List Pt) (j i : Nat), j < l.length → i < 3 → (ptsV l)[j * 3 + i]? = (pc (l.getD j pZ))[i]?
  | P :: l, 0, i, _, hi => by
    show ([.int .i64 P.1, .int .i64 P.2.1, .bool P.2.2] ++ ptsV l)[0 * 3 + i]? = _
    rw [List.getElem?_append_left (by simp; omega)]
    match i, hi with
    | 0, _ => rfl
    | 1, _ => rfl
    | 2, _ => rfl
  | P :: l, j + 1, i, hj, hi => by
    show ([.int .i64 P.1, .int .i64 P.2.1, .bool P.2.2] ++ ptsV l)[(j + 1) * 3 + i]? = _
    rw [List.getElem?_append_right (by simp; omega)]
    have := ptsV_at l j i (by simpa using hj) hi
    rw [show (j + 1) * 3 + i - [Value.int .i64 P.1, .int .i64 P.2.1, .bool P.2.2].length = j * 3 + i by simp; omega, this]
    simp

/-- A value is a list of these points, owned from B on. -/
def RowP (B : Nat) (w : World) (v : Value) (l : List Pt) : Prop := w.ownsRow B 35 3 v l.length (ptsV l)

theorem RowP.pts {B : Nat} {w : World} {v : Value} {l : List Pt} (h : RowP B w v l) : ∃ a cp, v = .slice a l.length cp ∧ PtsAt w a l.length w.heap.size (fun j => l.getD j pZ) := by
  rcases h.2 with ⟨rfl, h0⟩ | ⟨g, cp, cur, rfl, hg, hh, hrest⟩
  · exact ⟨none, 0, by rw [h0], fun j hj => by omega⟩
  · refine ⟨_, cp, rfl, fun j hj => ⟨g, 0, rfl, ?_, ?_, ?_, ?_⟩⟩
    · have hc := h.cellAt (j * 3 + 0) (by omega)
      rw [ptsV_at l j 0 hj (by omega)] at hc
      exact World.block_lt_of_cell? w _ hc
    · have hc := h.cellAt (j * 3 + 0) (by omega)
      rw [ptsV_at l j 0 hj (by omega)] at hc
      rw [Nat.zero_add]
      exact hc
    · have hc := h.cellAt (j * 3 + 1) (by omega)
      rw [ptsV_at l j 1 hj (by omega)] at hc
      rw [Nat.zero_add]
      exact hc
    · have hc := h.cellAt (j * 3 + 2) (by omega)
      rw [ptsV_at l j 2 hj (by omega)] at hc
      rw [Nat.zero_add]
      exact hc

theorem infoPz : (Tryz.prog.info? 35).map (fun i => (i.zero, i.size, i.bytes)) = some (some (.agg #[.int .i64 0, .int .i64 0, .bool false]), 3, 24) := by kernel_rfl

theorem cell_three_new (w : World) (x y z : Value) (t : TypeId) : ∀ j u, [x, y, z][j]? = some u → (w.alloc (.cells #[x, y, z] t)).cell? ((⟨w.heap.size, 0, none⟩ : Addr).add j) = some u := by
  intro j u hj
  rw [Addr.add_lit, Nat.zero_add, cell_of_row _ w.heap.size j #[x, y, z] t (0, 0) (heap_alloc_new w _)]
  simpa using hj

theorem three_cell (a b : Int) (c : Bool) : ∀ u ∈ [Value.int .i64 a, Value.int .i64 b, Value.bool c], u.oneCell' = true := by
  intro u hu
  simp at hu
  rcases hu with rfl | rfl | rfl <;> rfl

end Go.Proofs.YthnahalboomkoaaGreat

/-
  The walks of the program's sums: a point and others so often each; numbers, each so often the base.
  (-DROP-: what the seat lacks is left out.)
-/
namespace Go.Proofs.YthnahalboomkoaaGreat
open Go.RowKit

set_option maxHeartbeats 1600000 in
set_option maxRecDepth 100000 in
theorem iWith_any (S0 : Pt) (am : Option Addr) (ml cm : Nat) (t : Nat → Int) (a : Option Addr) (n cp : Nat) (hmn : ml ≤ n) (hn : n ≤ 1048576) (f : Nat → Pt) (w : World) (hB : IntsAt w am ml w.heap.size t) (hA : PtsAt w a n w.heap.size f) :
    Calls Tryz.prog 54 #[pv S0, .slice am ml cm, .slice a n cp] w fun e w' => e = .returned (pv (wEach S0 t f ml)) ∧ Below w.heap.size w w' := by
  obtain ⟨W, hW, hb, hs, hr⟩ := boxes1r w 35 35 (pc S0) #[.int .i64 0, .int .i64 0, .bool false]
  have HA : Hid (PtsAt w a n w.heap.size f) := hA
  have HB : Hid (IntsAt w am ml w.heap.size t) := hB
  have HW0 : Hid (Blk W w.heap.size 35 (pc (wEach S0 t f 0)) ∧ Blk W (w.heap.size + 1) 35 #[.int .i64 0, .int .i64 0, .bool false] ∧ Below w.heap.size w W) := ⟨hs, hr, hb⟩
  have hl1 : w.heap.size + 1 < W.heap.size := hr.lt
  clear hA hB hs hr hb
  unfold pc at hW
  unfold pv
  go_enter Tryz.func54, Tryz.ntmps54
  go_wp2
  clear hW
  go_loopw [11] (fun i wr => ∃ k : Nat, i = .int .i64 (k : Int) ∧ k ≤ ml ∧ Hid (Blk wr w.heap.size 35 (pc (wEach S0 t f k)) ∧ Blk wr (w.heap.size + 1) 35 #[.int .i64 0, .int .i64 0, .bool false] ∧ Below w.heap.size w wr)) (fun i _ => ml - (intOf i).toNat)
  case atStart => exact ⟨0, rfl, Nat.zero_le _, HW0⟩
  case round =>
    obtain ⟨k, rfl, hkm, HW⟩ := hrel
    clear HW0
    by_cases hlm : k < ml
    · have hlm' : (k : Int) < (ml : Int) := by omega
      have hk0 : (0 : Int) ≤ (k : Int) := by omega
      have hlt : k < n := by omega
      have hlt' : (k : Int) < (n : Int) := by omega
      have hA1 := HA.out.on HW.out.2.2
      obtain ⟨b, off, rfl, hb, z0, z1, z2⟩ := hA1 k hlt
      obtain ⟨b2, o2, rfl, hb2, c2⟩ := (HB.out.on HW.out.2.2) k hlm
      have hs3 := HW.out.1
      have hr3 := HW.out.2.1
      have hB3 := HW.out.2.2
      have hbl : b < w.heap.size := hb
      have CT : Hid (∀ w, Calls Tryz.prog 48 #[.int .i64 (t k), pv (f k)] w fun e w' => e = .returned (pv (pTimes (t k) (f k))) ∧ Below w.heap.size w w') := iTimes_any (t k) (f k)
      have HS : Hid (∀ w, Calls Tryz.prog 19 #[pv (wEach S0 t f k), pv (pTimes (t k) (f k))] w fun e w' => e = .returned (pv (wEach S0 t f (k + 1))) ∧ Below w.heap.size w w') := iPAdd_any _ _
      generalize wEach S0 t f k = S at HS hs3
      obtain ⟨S2, hS2⟩ : ∃ S2, S2 = wEach S0 t f (k + 1) := ⟨_, rfl⟩
      rw [← hS2] at HS
      have HE : Hid (S2 = wEach S0 t f (k + 1)) := hS2
      clear hS2
      generalize pTimes (t k) (f k) = PT at HS CT
      generalize f k = F at CT z0 z1 z2
      generalize t k = y at CT c2
      unfold pv at HS CT
      unfold pc at hs3
      have Z : Hid (∀ w', Below wr.heap.size wr w' → w'.cell? ⟨b, off + k * 3, none⟩ = some (.int .i64 F.1) ∧ w'.cell? ⟨b, off + k * 3 + 1, none⟩ = some (.int .i64 F.2.1) ∧ w'.cell? ⟨b, off + k * 3 + 2, none⟩ = some (.bool F.2.2)) := fun w' hw => ⟨(hw.cell (p := ⟨b, off + k * 3, none⟩) (by show b < _; have := hB3.size; omega)).trans z0, (hw.cell (p := ⟨b, off + k * 3 + 1, none⟩) (by show b < _; have := hB3.size; omega)).trans z1, (hw.cell (p := ⟨b, off + k * 3 + 2, none⟩) (by show b < _; have := hB3.size; omega)).trans z2⟩
      have T0 : Below wr.heap.size wr wr.drew := (Below.refl _ _).drew
      clear HW hA1 hb z0 z1 z2
      go_wp2_with fail
      refine wp_region_last [(0, false), (1, false), (2, false), (3, false), (4, false), (5, false), (6, true), (7, true)] 8 (fun wz => Below wr.heap.size wr wz) mixes (by kernel_rfl) T0 ?_
      repeat (refine ord_float rfl rfl (fun K hK => ⟨_, (fun w' hw => by have q0 := (hs3.on hw hs3.lt).cell 0; have q1 :=  (hs3.on hw hs3.lt).cell 1; have q2 :=  (hs3.on hw hs3.lt).cell 2; have q3 :=  (Z.out _ hw).1; have q4 :=  (Z.out _ hw).2.1; have q5 :=  (Z.out _ hw).2.2; go_simp; exact rfl), ?_⟩); go_simp; refine hK _ ?_; clear hK K)
      refine ord_call rfl rfl (fun K hK => ⟨_, _, (by go_simp <;> first | exact rfl | exact ⟨rfl, rfl⟩), ?_⟩)
      refine (CT.out _).mono ?_
      rintro e u1 ⟨rfl, hu1⟩
      have T1 := below_then T0 hu1
      refine ⟨_, rfl, T1, ?_⟩
      go_simp
      refine hK _ _ ?_
      clear hK K
      refine ord_call rfl rfl (fun K hK => ⟨_, _, (by go_simp <;> first | exact rfl | exact ⟨rfl, rfl⟩), ?_⟩)
      refine (HS.out _).mono ?_
      rintro e u2 ⟨rfl, hu2⟩
      have T2 := below_then T1 hu2
      refine ⟨_, rfl, T2, ?_⟩
      go_simp
      refine hK _ _ ?_
      clear hK K
      refine ord_nil ?_
      have hs4 := hs3.on T2 hs3.lt
      have hr4 := hr3.on T2 hr3.lt
      have hB4 := below_then hB3 T2
      refine last_storeB (cs' := #[.int .i64 S2.1, .int .i64 S2.2.1, .bool S2.2.2]) rfl rfl rfl rfl rfl rfl hs4 infoP rfl (ones3 _ _ _) ?_
      intro V hs5 _ hoth hbel
      have hr5 := hoth _ _ _ (by omega) hr4
      have hB5 := hbel _ _ (by omega) hB4
      clear hoth hbel hs4 hr4 hB4 hs3 hr3 hB3 T0 T1 T2 hu1 hu2 Z CT HS
      go_wp2
      go_roundw
      case rel => exact ⟨k + 1, by go_num, hlm, ⟨by rw [← HE.out]; exact hs5, hr5, hB5⟩⟩
      case measure => simp [intOf]; omega
    · have hlm' : ¬ (k : Int) < (ml : Int) := by omega
      have HK : Hid (k = ml) := (show k = ml by omega)
      have hs3 := HW.out.1
      have hr3 := HW.out.2.1
      have hB3 := HW.out.2.2
      clear HW
      go_wp2_with (first | (refine load_blk rfl rfl rfl hs3 Tryz.underlying35 infoP ?_) | (refine store_blk (cs' := pc (wEach S0 t f k)) rfl rfl rfl rfl rfl hr3 infoP rfl (ones3 _ _ _) ?_; intro V h5 hoth hbel; have hbV := hbel _ _ (by omega) hB3; clear hoth hbel))
      refine bodyPost_ret_by (result_blk rfl rfl h5 Tryz.underlying35 infoP) rfl ⟨by rw [← HK.out]; rfl, hbV⟩

/-- Numbers, each so often the base. -/
def gxL (l : List Int) : List Pt := l.map gx
theorem gxL_len (l : List Int) : (gxL l).length = l.length := by simp [gxL]
theorem gxL_at (l : List Int) {j : Nat} (h : j < l.length) : (gxL l).getD j pZ = gx (l.getD j 0) := by simp [gxL, h]
theorem gxL_next (l : List Int) {k : Nat} (h : k < l.length) : gxL (l.take (k + 1)) = gxL (l.take k) ++ [gx (l.getD k 0)] := by
  have e : l.getD k 0 = l[k] := by simp [h]
  unfold gxL
  rw [List.take_succ_eq_append_getElem h, List.map_append, e]
  rfl

set_option maxHeartbeats 1600000 in
set_option maxRecDepth 100000 in
theorem iEachB_any (am : Option Addr) (cm : Nat) (m : List Int) (hm : m.length ≤ 1000) (w : World) (hB : IntsAt w am m.length w.heap.size (fun j => m.getD j 0)) :
    Calls Tryz.prog 49 #[.slice am m.length cm] w fun e w' => ∃ v, e = .returned v ∧ RowP w.heap.size w' v (gxL m) ∧ Below w.heap.size w w' := by
  obtain ⟨i0, hi, hz0, hz1, hz2⟩ := info_parts infoPz
  have HB : Hid (IntsAt w am m.length w.heap.size (fun j => m.getD j 0)) := hB
  have HBa : Hid (∀ w, Calls Tryz.prog 20 #[] w fun e w' => e = .returned (.agg #[.int .i64 8445, .int .i64 859, .bool false]) ∧ Below w.heap.size w w') := iBase_any
  obtain ⟨ml, hml⟩ : ∃ ml, ml = m.length := ⟨_, rfl⟩
  have HM : Hid (m.length = ml) := hml.symm
  rw [← hml] at HB hm ⊢
  clear hB hml
  obtain ⟨W, hW, hb, _⟩ := box1 w 35 #[]
  have H0 : Hid (RowP w.heap.size W (.slice (some ⟨w.heap.size, 0, none⟩) 0 0) [] ∧ Below w.heap.size w W) := by
    refine ⟨?_, hb⟩
    have h := World.ownsRow_lit (base := w.heap.size) (e := 35) (size := 3) w #[] 0 (by simp) (by simp [maxLen]) (by simp)
    rw [hW] at h
    have h' : W.ownsRow w.heap.size 35 3 (.slice (some ⟨w.heap.size, 0, none⟩) 0 0) 0 [] := by simpa using h
    exact h'
  clear hb
  go_enter Tryz.func49, Tryz.ntmps49
  go_wp2
  clear hW
  go_loopw [3, 9] (fun v i wr => ∃ (u : Value) (k : Nat), u = v ∧ i = .int .i64 (k : Int) ∧ k ≤ ml ∧ wr.ownsRow w.heap.size 35 3 u (gxL (m.take k)).length (ptsV (gxL (m.take k))) ∧ Hid (Below w.heap.size w wr)) (fun _ i _ => ml - (intOf i).toNat)
  case atStart => exact ⟨_, 0, rfl, rfl, Nat.zero_le _, H0.out.1, H0.out.2⟩
  case round =>
    obtain ⟨v, k, rfl, rfl, hk, hown, HW⟩ := hrel
    clear H0
    have hlk : (gxL (m.take k)).length = k := by rw [gxL_len, List.length_take, HM.out]; omega
    by_cases hlt : k < ml
    · have hlt' : (k : Int) < (ml : Int) := by omega
      have hk0 : (0 : Int) ≤ (k : Int) := by omega
      have hm63 : (gxL (m.take k)).length + 1 ≤ maxLen := by rw [hlk]; unfold maxLen; omega
      have hm47 : ((gxL (m.take k)).length + 1) * 24 ≤ 140737488355328 := by rw [hlk]; omega
      obtain ⟨b2, o2, rfl, hb2, c2⟩ := (HB.out.on HW.out) k hlt
      replace c2 : wr.cell? ⟨b2, o2 + k, none⟩ = some (.int .i64 (m.getD k 0)) := c2
      have CT : Hid (∀ w, Calls Tryz.prog 48 #[.int .i64 (m.getD k 0), .agg #[.int .i64 8445, .int .i64 859, .bool false]] w fun e w' => e = .returned (pv (gx (m.getD k 0))) ∧ Below w.heap.size w w') := fun w => by
        have h := iTimes_any (m.getD k 0) pB w
        rw [key_times] at h
        exact h
      have HKN : Hid (gxL (m.take (k + 1)) = gxL (m.take k) ++ [gx (m.getD k 0)]) := gxL_next m (by rw [HM.out]; exact hlt)
      generalize gx (m.getD k 0) = P at CT HKN
      generalize m.getD k 0 = y at CT c2
      unfold pv at CT
      have hB0 := HW.out
      clear hlk HW
      go_wp2_with fail
      clear c2
      refine (HBa.out _).mono ?_
      rintro e w4 ⟨rfl, hb4⟩
      go_wp2_with fail
      refine (CT.out _).mono ?_
      rintro e w5 ⟨rfl, hb5⟩
      have hb45 := below_then hb4 hb5
      have hown5 := owns_on hown hb45
      have hB5 := hB0.trans (hb45.mono hB0.size)
      have hsz : w.heap.size ≤ w5.heap.size := hB5.size
      clear hown hb4 hb5 hb45 hB0 CT
      go_wp2_with (at_builtin; refine wpList_append_own_at _ rfl _ _ 36 rfl w.heap.size 35 i0 (.agg #[.int .i64 0, .int .i64 0, .bool false]) 3 24 Tryz.underlying36 hi hz0 hz1 hz2 rfl (by decide) _ _ _ rfl (hown5.alloc _) ⟨w5.heap.size, 0, none⟩ 1 1 [.int .i64 P.1, .int .i64 P.2.1, .bool P.2.2] rfl rfl (cell_three_new _ _ _ _ _) (three_cell _ _ _) hm63 hm47 (room_for hsz _) ?_)
      intro v' w7 hown' hgrow _ hat
      have R7 : w7.ownsRow w.heap.size 35 3 v' (gxL (m.take (k + 1))).length (ptsV (gxL (m.take (k + 1)))) := by
        rw [HKN.out, ptsV_append, List.length_append]; exact hown'
      have hB7 : Hid (Below w.heap.size w w7) := (hB5.alloc hB5.size _).grown hgrow (by simp; omega) (fun k hk => (hown5.lt k hk).1)
      clear hown' hgrow hat hown5 hB5 hm63 hm47 HKN
      go_wp2
      go_roundw
      case rel => exact ⟨v', k + 1, by trivial, by go_num, hlt, R7, hB7⟩
      case measure => simp [intOf]; omega
    · have hlt' : ¬ (k : Int) < (ml : Int) := by omega
      have HF : Hid (RowP w.heap.size wr v (gxL m)) := by
        show RowP _ _ _ _
        have e : m.take k = m := by rw [show k = ml by omega, ← HM.out, List.take_length]
        rw [e] at hown
        exact hown
      clear hown hlk
      go_wp2
      go_ret
      exact ⟨_, rfl, HF.out, HW.out⟩

end Go.Proofs.YthnahalboomkoaaGreat

/-
  The walk of the specification's sum of what is told.
  (-DROP-: what the seat lacks is left out.)
-/
namespace Go.Proofs.YthnahalboomkoaaGreat
open Go.RowKit

/-- The first of the inputs, and each next one so often. -/
def inS (f : Nat → Pt) (t : Nat → Int) : Nat → Pt
  | 0 => pSum pZ (f 0)
  | k + 1 => pSum (inS f t k) (pTimes (t k) (f (k + 1)))
def inSum (f : Nat → Pt) (n : Nat) (m : List Int) : Pt := if n = m.length + 1 then inS f (fun j => m.getD j 0) m.length else pZ
theorem inS_gx (x t : Nat → Int) : ∀ k, inS (fun j => gx (x j)) t k = gx (x 0 + sumZ (fun j => t j * x (j + 1)) k)
  | 0 => by
    show pSum (gx 0) (gx (x 0)) = gx (x 0 + 0)
    rw [gx_add]
    exact gx_dp (dp_zero.of (by omega))
  | k + 1 => by
    show pSum (inS (fun j => gx (x j)) t k) (pTimes (t k) (gx (x (k + 1)))) = gx (x 0 + (sumZ (fun j => t j * x (j + 1)) k + t k * x (k + 1)))
    rw [inS_gx x t k, gx_times, gx_add, Int.add_assoc]
/-- Keys, with their list as a value. -/
def keyC (A B G D : Pt) (i : Value) : Array Value := #[.int .i64 A.1, .int .i64 A.2.1, .bool A.2.2, .int .i64 B.1, .int .i64 B.2.1, .bool B.2.2, .int .i64 G.1, .int .i64 G.2.1, .bool G.2.2, .int .i64 D.1, .int .i64 D.2.1, .bool D.2.2, i]

end Go.Proofs.YthnahalboomkoaaGreat

/-
  The walk of the program's sum of what is told.
  (-DROP-: what the seat lacks is left out.)
-/
namespace Go.Proofs.YthnahalboomkoaaGreat
open Go.RowKit

theorem infoKs : (Tryz.prog.info? 38).map (·.size) = some 13 := by kernel_rfl
/-- The sum of what is told, as the program makes it. -/
def inSumI (f : Nat → Pt) (n : Nat) (m : List Int) : Pt := if n = m.length + 1 then wEach (f 0) (fun j => m.getD j 0) (fun j => f (j + 1)) m.length else pZ
theorem pts_rest {w : World} {b off p c : Nat} {f : Nat → Pt} (h : PtsAt w (some ⟨b, off, none⟩) (p + 1) c f) : PtsAt w (some ⟨b, off + 3, none⟩) p c (fun j => f (j + 1)) := fun j hj => by
  obtain ⟨b', o', e, hb, z0, z1, z2⟩ := h (j + 1) (by omega)
  injection e with e
  injection e with e1 e2
  subst e1 e2
  have e3 : off + (j + 1) * 3 = off + 3 + j * 3 := by omega
  rw [e3] at z0 z1 z2
  exact ⟨b, off + 3, rfl, hb, z0, z1, z2⟩
theorem pts_none {w : World} {a : Option Addr} {c : Nat} {f : Nat → Pt} : PtsAt w a 0 c f := fun j hj => absurd hj (by omega)

set_option maxHeartbeats 3200000 in
set_option maxRecDepth 100000 in
theorem iInput_any (A B G D : Pt) (a : Option Addr) (n cp : Nat) (hn : n ≤ 1048576) (hcp : n ≤ cp) (f : Nat → Pt) (am : Option Addr) (cm : Nat) (m : List Int) (hm : m.length ≤ 1048576) (w : World) (hA : PtsAt w a n w.heap.size f) (hB : IntsAt w am m.length w.heap.size (fun j => m.getD j 0)) :
    Calls Tryz.prog 17 #[.agg (keyC A B G D (.slice a n cp)), .slice am m.length cm] w fun e w' => e = .returned (pv (inSumI f n m)) ∧ Below w.heap.size w w' := by
  obtain ⟨W, hW, hb, hs, hr⟩ := boxes1r w 38 35 #[.int .i64 A.1, .int .i64 A.2.1, .bool A.2.2, .int .i64 B.1, .int .i64 B.2.1, .bool B.2.2, .int .i64 G.1, .int .i64 G.2.1, .bool G.2.2, .int .i64 D.1, .int .i64 D.2.1, .bool D.2.2, .slice a n cp] #[.int .i64 0, .int .i64 0, .bool false]
  have hl1 : w.heap.size + 1 < W.heap.size := hr.lt
  have HA : Hid (PtsAt w a n w.heap.size f) := hA
  have HB : Hid (IntsAt w am m.length w.heap.size (fun j => m.getD j 0)) := hB
  have q12 : W.cell? ⟨w.heap.size, 12, none⟩ = some (.slice a n cp) := hs.cell 12
  have HS : Hid (inSumI f n m = if n = m.length + 1 then wEach (f 0) (fun j => m.getD j 0) (fun j => f (j + 1)) m.length else pZ) := rfl
  obtain ⟨R, hR⟩ : ∃ R, R = inSumI f n m := ⟨_, rfl⟩
  rw [← hR] at HS ⊢
  clear hA hB hR
  obtain ⟨ml, hml⟩ : ∃ ml, ml = m.length := ⟨_, rfl⟩
  rw [← hml] at HB HS hm ⊢
  clear hml
  have hwr : IntKind.i64.wrap ((ml : Int) + 1) = (ml : Int) + 1 := IntWalk.i64_in _ (by omega)
  unfold keyC
  by_cases hnm : n = ml + 1
  · subst hnm
    have HR : Hid (R = wEach (f 0) (fun j => m.getD j 0) (fun j => f (j + 1)) ml) := by show _ = _; rw [HS.out, if_pos rfl]
    have CW : Hid (∀ ad cc X, Below w.heap.size w X → PtsAt X ad ml X.heap.size (fun j => f (j + 1)) → Calls Tryz.prog 54 #[.agg #[.int .i64 (f 0).1, .int .i64 (f 0).2.1, .bool (f 0).2.2], .slice am ml cm, .slice ad ml cc] X fun e w' => e = .returned (.agg #[.int .i64 R.1, .int .i64 R.2.1, .bool R.2.2]) ∧ Below X.heap.size X w') := fun ad cc X hX hP => by
      have h := iWith_any (f 0) am ml cm (fun j => m.getD j 0) ad ml cc (Nat.le_refl _) (by omega) (fun j => f (j + 1)) X ((HB.out.on hX).wide hX.size) hP
      rw [← HR.out] at h
      exact h
    obtain ⟨b, off, ea, hbl, z0, z1, z2⟩ := HA.out 0 (by omega)
    subst ea
    rw [Nat.zero_mul, Nat.add_zero] at z0 z1 z2
    have HPT : Hid (∀ X, Below w.heap.size w X → (cp = 1 → PtsAt X (some ⟨b, off, none⟩) ml X.heap.size (fun j => f (j + 1))) ∧ PtsAt X (some ⟨b, off + 3, none⟩) ml X.heap.size (fun j => f (j + 1))) := fun X hX => ⟨fun h => by
        have h0 : ml = 0 := by omega
        rw [h0]; exact pts_none, pts_rest ((HA.out.on hX).wide hX.size)⟩
    have ZC : Hid (∀ X, Below w.heap.size w X → X.cell? ⟨b, off, none⟩ = some (.int .i64 (f 0).1) ∧ X.cell? ⟨b, off + 1, none⟩ = some (.int .i64 (f 0).2.1) ∧ X.cell? ⟨b, off + 2, none⟩ = some (.bool (f 0).2.2)) := fun X hX => ⟨(hX.cell (p := ⟨b, off, none⟩) hbl).trans z0, (hX.cell (p := ⟨b, off + 1, none⟩) hbl).trans z1, (hX.cell (p := ⟨b, off + 2, none⟩) hbl).trans z2⟩
    generalize f 0 = F at CW ZC
    clear z0 z1 z2 HA HB HS HR
    have hp1 : 0 < ml + 1 := by omega
    have hp2 : (0 : Int) < ((ml + 1 : Nat) : Int) := by omega
    have hp3 : (1 : Int) ≤ ((ml + 1 : Nat) : Int) := by omega
    have hp4 : (1 : Int) ≤ (ml : Int) + 1 := by omega
    have hp5 : ¬ (ml : Int) + 1 < 1 := by omega
    have hp6 : (0 : Int) < (ml : Int) + 1 := by omega
    go_enter Tryz.func17, Tryz.ntmps17
    go_wp2_with fail
    clear hW q12
    have T0 : Below W.heap.size W W.drew := (Below.refl _ _).drew
    have TW : Hid (∀ X, Below W.heap.size W X → Below w.heap.size w X) := fun X hX => hb.trans (hX.mono hb.size)
    by_cases hc1 : cp = 1
    · subst hc1
      have hm0 : ml = 0 := by omega
      subst hm0
      refine wp_region_last [(0, false), (1, false), (2, false), (3, false), (4, false), (5, false), (6, false), (7, false), (8, true)] 9 (fun wz => Below W.heap.size W wz) mixes (by kernel_rfl) T0 ?_
      repeat (refine ord_float rfl rfl (fun K hK => ⟨_, (fun w' hw => by have q0 := (hs.on hw hs.lt).cell 12; have q1 :=  (ZC.out _ (TW.out _ hw)).1; have q2 :=  (ZC.out _ (TW.out _ hw)).2.1; have q3 :=  (ZC.out _ (TW.out _ hw)).2.2; go_simp; exact rfl), ?_⟩); go_simp; refine hK _ ?_; clear hK K)
      refine ord_call rfl rfl (fun K hK => ⟨_, _, (by go_simp <;> first | exact rfl | exact ⟨rfl, rfl⟩), ?_⟩)
      refine (CW.out _ _ _ (TW.out _ T0) ((HPT.out _ (TW.out _ T0)).1 rfl)).mono ?_
      rintro e u1 ⟨rfl, hu1⟩
      have T1 := below_then T0 hu1
      refine ⟨_, rfl, T1, ?_⟩
      go_simp
      refine hK _ _ ?_
      clear hK K
      refine ord_nil ?_
      have hr4 := hr.on T1 hr.lt
      have hB4 := TW.out _ T1
      refine last_storeB (cs' := #[.int .i64 R.1, .int .i64 R.2.1, .bool R.2.2]) rfl rfl rfl rfl rfl rfl hr4 infoP rfl (ones3 _ _ _) ?_
      intro V h5 _ hoth hbel
      have hB5 := hbel _ _ (by omega) hB4
      clear hoth hbel hr4 hB4 T0 T1 hu1
      go_wp2
      refine bodyPost_ret_by (result_blk rfl rfl h5 Tryz.underlying35 infoP) rfl ⟨rfl, hB5⟩
    · refine wp_region_last [(0, false), (1, false), (2, false), (3, false), (4, false), (5, false), (6, false), (7, false), (8, true)] 9 (fun wz => Below W.heap.size W wz) mixes (by kernel_rfl) T0 ?_
      repeat (refine ord_float rfl rfl (fun K hK => ⟨_, (fun w' hw => by have q0 := (hs.on hw hs.lt).cell 12; have q1 :=  (ZC.out _ (TW.out _ hw)).1; have q2 :=  (ZC.out _ (TW.out _ hw)).2.1; have q3 :=  (ZC.out _ (TW.out _ hw)).2.2; go_simp; exact rfl), ?_⟩); go_simp; refine hK _ ?_; clear hK K)
      refine ord_call rfl rfl (fun K hK => ⟨_, _, (by go_simp <;> first | exact rfl | exact ⟨rfl, rfl⟩), ?_⟩)
      refine (CW.out _ _ _ (TW.out _ T0) (HPT.out _ (TW.out _ T0)).2).mono ?_
      rintro e u1 ⟨rfl, hu1⟩
      have T1 := below_then T0 hu1
      refine ⟨_, rfl, T1, ?_⟩
      go_simp
      refine hK _ _ ?_
      clear hK K
      refine ord_nil ?_
      have hr4 := hr.on T1 hr.lt
      have hB4 := TW.out _ T1
      refine last_storeB (cs' := #[.int .i64 R.1, .int .i64 R.2.1, .bool R.2.2]) rfl rfl rfl rfl rfl rfl hr4 infoP rfl (ones3 _ _ _) ?_
      intro V h5 _ hoth hbel
      have hB5 := hbel _ _ (by omega) hB4
      clear hoth hbel hr4 hB4 T0 T1 hu1
      go_wp2
      refine bodyPost_ret_by (result_blk rfl rfl h5 Tryz.underlying35 infoP) rfl ⟨rfl, hB5⟩
  · have hnm' : ¬ (n : Int) = (ml : Int) + 1 := by omega
    have HR : Hid (R = pZ) := by show _ = _; rw [HS.out, if_neg hnm]
    go_enter Tryz.func17, Tryz.ntmps17
    go_wp2_with (refine store_blk (cs' := #[.int .i64 0, .int .i64 0, .bool true]) rfl rfl rfl rfl rfl hr infoP rfl (ones3 0 0 true) ?_; intro V h5 hoth hbel; have hbV := hbel _ _ (by omega) hb; clear hoth hbel)
    refine bodyPost_ret_by (result_blk rfl rfl h5 Tryz.underlying35 infoP) rfl ⟨by rw [HR.out]; rfl, hbV⟩

end Go.Proofs.YthnahalboomkoaaGreat
