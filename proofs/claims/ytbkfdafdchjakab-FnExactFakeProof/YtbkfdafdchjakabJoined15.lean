/-
  Texts of one's own, joined.
-/
import Derived.Test.YtbkfdafdchjakabJoined14
import Derived.Test.YtbkfdafdchjakabJoined12
import Derived.Maps.AppendAt
import Derived.StillTail
import Derived.StillTailTactics
import Derived.Test.YtbkfdafdchjakabJoined11

/-
  Polynomials modulo 1009: their values, and that these make them out.
-/
namespace Go.Proofs.Ytbkfdafdchjakab

/-- A multiple of 1009. -/
def Dp (a : Int) : Prop := (1009 : Int) ∣ a
theorem Dp.of {a b : Int} (h : Dp a) (e : b = a) : Dp b := by rw [e]; exact h
theorem dp_zero : Dp 0 := Int.dvd_zero _
theorem Dp.add {a b : Int} (h : Dp a) (h' : Dp b) : Dp (a + b) := Int.dvd_add h h'
theorem Dp.sub {a b : Int} (h : Dp a) (h' : Dp b) : Dp (a - b) := Int.dvd_sub h h'
theorem Dp.neg {a : Int} (h : Dp a) : Dp (-a) := (dp_zero.sub h).of (by omega)
theorem Dp.mul {a : Int} (h : Dp a) (c : Int) : Dp (a * c) := Int.dvd_mul_of_dvd_left h
theorem dp_sca (a : Int) : Dp (sca a - a) := by unfold Dp sca; omega
theorem sca_of_dp {a b : Int} (h : Dp (a - b)) : sca a = sca b := by unfold sca; unfold Dp at h; omega
theorem dp_of_sca {a b : Int} (h : sca a = sca b) : Dp (a - b) := by unfold sca at h; unfold Dp; omega
theorem dp_small {a b : Int} (h : Dp (a - b)) (h0 : 0 ≤ a ∧ a < 1009) (h1 : 0 ≤ b ∧ b < 1009) : a = b := by unfold Dp at h; omega
theorem dp_scAdd (a b : Int) : Dp (scAdd a b - (a + b)) := by rw [scAdd_eq]; exact dp_sca _
theorem dp_scMul (a b : Int) : Dp (scMul a b - a * b) := by rw [scMul_eq]; exact dp_sca _
theorem dp_scNeg (a : Int) : Dp (scNeg a - -a) := by rw [scNeg_eq]; exact dp_sca _
def Sc (a : Int) : Prop := 0 ≤ a ∧ a < 1009
theorem sc_sca (a : Int) : Sc (sca a) := ⟨sca_nonneg a, sca_lt a⟩
theorem sc_add (a b : Int) : Sc (scAdd a b) := sc_sca _
theorem sc_mul (a b : Int) : Sc (scMul a b) := sc_sca _
theorem sc_neg (a : Int) : Sc (scNeg a) := sc_sca _
theorem sc_zero : Sc 0 := ⟨by decide, by decide⟩

/-- The value, unbounded. -/
def ev : List Int → Int → Int
  | [], _ => 0
  | a :: t, x => a + x * ev t x
theorem pAt_ev (x : Int) : ∀ l : List Int, pAt l x = sca (ev l x)
  | [] => rfl
  | a :: t => by
    show scAdd (scMul (pAt t x) x) a = sca (a + x * ev t x)
    rw [pAt_ev x t, scAdd_eq, scMul_eq, sca_mul_left, sca_add_left]
    congr 1
    grind
theorem getD_out {l : List Int} {j : Nat} (h : l.length ≤ j) : l.getD j 0 = 0 := by simp [List.getD_eq_getElem?_getD, List.getElem?_eq_none h]
theorem getD_inZ {l : List Int} {j : Nat} (h : j < l.length) : l.getD j 0 = l[j] := by simp [h]
theorem getD_nil (j : Nat) : ([] : List Int).getD j 0 = 0 := by simp
theorem ev_zero (x : Int) : ∀ l : List Int, (∀ j, Dp (l.getD j 0)) → Dp (ev l x)
  | [], _ => dp_zero
  | a :: t, h => by
    have h0 : Dp a := h 0
    have h1 := ev_zero x t fun j => h (j + 1)
    exact (h0.add (h1.mul x)).of (by show a + x * ev t x = _; grind)
theorem ev_congr (x : Int) : ∀ a b : List Int, (∀ j, Dp (a.getD j 0 - b.getD j 0)) → Dp (ev a x - ev b x)
  | [], b, h => (ev_zero x b fun j => (h j).neg.of (by simp)).neg.of (by show 0 - _ = _; omega)
  | a :: t, [], h => (ev_zero x (a :: t) fun j => (h j).of (by simp)).of (by show _ - 0 = _; omega)
  | a :: t, b :: s, h => by
    have h0 : Dp (a - b) := h 0
    have h1 := ev_congr x t s fun j => h (j + 1)
    exact (h0.add (h1.mul x)).of (by show a + x * ev t x - (b + x * ev s x) = _; grind)

/-- Place by place, unbounded. -/
def addL : List Int → List Int → List Int
  | [], b => b
  | a :: t, [] => a :: t
  | a :: t, b :: s => (a + b) :: addL t s
theorem ev_addL (x : Int) : ∀ a b : List Int, ev (addL a b) x = ev a x + ev b x
  | [], b => by show ev b x = 0 + ev b x; omega
  | a :: t, [] => by show ev (a :: t) x = ev (a :: t) x + 0; omega
  | a :: t, b :: s => by
    show (a + b) + x * ev (addL t s) x = (a + x * ev t x) + (b + x * ev s x)
    rw [ev_addL x t s]
    grind
theorem addL_getD : ∀ (a b : List Int) (j : Nat), (addL a b).getD j 0 = a.getD j 0 + b.getD j 0
  | [], b, j => by rw [getD_nil]; show b.getD j 0 = _; omega
  | a :: t, [], j => by rw [getD_nil]; show (a :: t).getD j 0 = _; omega
  | a :: t, b :: s, 0 => rfl
  | a :: t, b :: s, j + 1 => addL_getD t s j
theorem ev_map (x k : Int) : ∀ l : List Int, ev (l.map fun y => k * y) x = k * ev l x
  | [] => by simp [ev]
  | a :: t => by
    show k * a + x * ev (t.map fun y => k * y) x = k * (a + x * ev t x)
    rw [ev_map x k t]
    grind
theorem ev_shift (x : Int) (l : List Int) : ∀ s : Nat, ev (List.replicate s 0 ++ l) x = x ^ s * ev l x
  | 0 => by simp
  | s + 1 => by
    show 0 + x * ev (List.replicate s 0 ++ l) x = _
    rw [ev_shift x l s, Int.pow_succ]
    grind
theorem shift_getD (l : List Int) : ∀ (s j : Nat), (List.replicate s 0 ++ l).getD j 0 = if s ≤ j then l.getD (j - s) 0 else 0
  | 0, j => by simp
  | s + 1, 0 => by simp [List.replicate_succ]
  | s + 1, j + 1 => by
    show (List.replicate s 0 ++ l).getD j 0 = _
    rw [shift_getD l s j]
    have e : (s + 1 ≤ j + 1) = (s ≤ j) := by simp
    have e2 : j + 1 - (s + 1) = j - s := by omega
    rw [e2]
    simp

/-- Without 0 at its end: at no place another. -/
theorem list_end {l : List Int} (h : 0 < l.length) : ∃ t x, l = t ++ [x] := ⟨l.dropLast, l.getLast (by intro e; rw [e] at h; simp at h), (List.dropLast_concat_getLast _).symm⟩
theorem getD_zero_end (l : List Int) (j : Nat) : (l ++ [0]).getD j 0 = l.getD j 0 := by
  rcases Nat.lt_trichotomy j l.length with h | h | h
  · rw [List.getD_eq_getElem?_getD, List.getD_eq_getElem?_getD, List.getElem?_append_left h]
  · subst h; simp
  · rw [getD_out (by simp; omega), getD_out (by omega)]
theorem trimZ_getD (j : Nat) : ∀ (n : Nat) (l : List Int), l.length ≤ n → (trimZ l).getD j 0 = l.getD j 0
  | 0, l, h => by rw [List.length_eq_zero_iff.1 (show l.length = 0 by omega)]; rfl
  | n + 1, l, h => by
    by_cases h0 : 0 < l.length
    · obtain ⟨t, x, rfl⟩ := list_end h0
      by_cases hx : x = 0
      · subst hx
        rw [trimZ_zero, getD_zero_end]
        exact trimZ_getD j n t (by simp at h; omega)
      · rw [trimZ_some _ hx]
    · rw [List.length_eq_zero_iff.1 (show l.length = 0 by omega)]; rfl
theorem trimZ_at (l : List Int) (j : Nat) : (trimZ l).getD j 0 = l.getD j 0 := trimZ_getD j l.length l (Nat.le_refl _)
theorem trimZ_trim : ∀ (n : Nat) (l : List Int), l.length ≤ n → trimZ (trimZ l) = trimZ l
  | 0, l, h => by rw [List.length_eq_zero_iff.1 (show l.length = 0 by omega)]; rfl
  | n + 1, l, h => by
    by_cases h0 : 0 < l.length
    · obtain ⟨t, x, rfl⟩ := list_end h0
      by_cases hx : x = 0
      · subst hx
        rw [trimZ_zero]
        exact trimZ_trim n t (by simp at h; omega)
      · rw [trimZ_some _ hx, trimZ_some _ hx]
    · rw [List.length_eq_zero_iff.1 (show l.length = 0 by omega)]; rfl
/-- Scalars, none of them 0 at the end. -/
def Can (l : List Int) : Prop := (∀ j, Sc (l.getD j 0)) ∧ trimZ l = l
theorem Can.of_trim (l : List Int) (h : ∀ j, Sc (l.getD j 0)) : Can (trimZ l) := ⟨fun j => by rw [trimZ_at]; exact h j, trimZ_trim l.length l (Nat.le_refl _)⟩
theorem map_sca_at (l : List Int) (j : Nat) : (l.map sca).getD j 0 = sca (l.getD j 0) := by
  by_cases h : j < l.length
  · simp [h]
  · rw [getD_out (by simp; omega), getD_out (by omega)]; rfl
theorem pTrim_can (l : List Int) : Can (pTrim l) := Can.of_trim _ fun j => by rw [map_sca_at]; exact sc_sca _
theorem pTrim_at (l : List Int) (j : Nat) : (pTrim l).getD j 0 = sca (l.getD j 0) := by unfold pTrim; rw [trimZ_at, map_sca_at]
theorem trim_last {l : List Int} (h : trimZ l = l) (h0 : 0 < l.length) : l.getD (l.length - 1) 0 ≠ 0 := by
  obtain ⟨t, x, rfl⟩ := list_end h0
  intro e
  have hx : x = 0 := by simpa using e
  subst hx
  have h1 := trimZ_len t
  rw [trimZ_zero] at h
  have := congrArg List.length h
  simp at this
  omega
theorem trim_len_lt {l : List Int} {n : Nat} (h : ∀ j, n ≤ j → l.getD j 0 = 0) : (trimZ l).length ≤ n := by
  rcases Nat.lt_or_ge n (trimZ l).length with hl | hl
  · exact absurd ((trimZ_at l _).trans (h _ (by omega))) (trim_last (trimZ_trim l.length l (Nat.le_refl _)) (by omega))
  · exact hl
theorem Can.len_le {l : List Int} (h : Can l) {n : Nat} (h' : ∀ j, n ≤ j → l.getD j 0 = 0) : l.length ≤ n := by
  have := trim_len_lt h'
  rwa [h.2] at this
theorem can_eq {a b : List Int} (ha : Can a) (hb : Can b) (h : ∀ j, Dp (a.getD j 0 - b.getD j 0)) : a = b := by
  have h1 : ∀ j, a.getD j 0 = b.getD j 0 := fun j => dp_small (h j) (ha.1 j) (hb.1 j)
  have l1 : a.length ≤ b.length := ha.len_le fun j hj => by rw [h1, getD_out hj]
  have l2 : b.length ≤ a.length := hb.len_le fun j hj => by rw [← h1, getD_out hj]
  refine List.ext_getElem (by omega) fun j p q => ?_
  have := h1 j
  rwa [getD_inZ p, getD_inZ q] at this
theorem trim_self {l : List Int} (h : Can l) : pTrim l = l := by
  refine can_eq (pTrim_can l) h fun j => ?_
  rw [pTrim_at]
  exact dp_sca _

/-- Divided by the place c. -/
def syn (c : Int) : List Int → List Int
  | [] => []
  | _ :: t => ev t c :: syn c t
theorem syn_ev (c x : Int) : ∀ l : List Int, (x - c) * ev (syn c l) x = ev l x - ev l c
  | [] => by simp [ev, syn]
  | a :: t => by
    show (x - c) * (ev t c + x * ev (syn c t) x) = (a + x * ev t x) - (a + c * ev t c)
    have h := syn_ev c x t
    have h2 : (x - c) * (ev t c + x * ev (syn c t) x) = (x - c) * ev t c + x * ((x - c) * ev (syn c t) x) := by grind
    rw [h2, h]
    grind
theorem syn_at (c : Int) : ∀ (l : List Int) (j : Nat), (syn c l).getD j 0 = ev (l.drop (j + 1)) c
  | [], j => by simp [syn, ev]
  | _ :: t, 0 => by simp [syn]
  | _ :: t, j + 1 => by
    show (syn c t).getD j 0 = ev (t.drop (j + 1)) c
    exact syn_at c t j
theorem drop_ev (c : Int) : ∀ (l : List Int) (j : Nat), ev (l.drop j) c = l.getD j 0 + c * ev (l.drop (j + 1)) c
  | [], j => by simp [ev]
  | a :: t, 0 => by simp [ev]
  | a :: t, j + 1 => by
    show ev (t.drop j) c = t.getD j 0 + c * ev (t.drop (j + 1)) c
    exact drop_ev c t j
theorem getD_drop0 (l : List Int) (i j : Nat) : (l.drop i).getD j 0 = l.getD (i + j) 0 := by
  simp [List.getD_eq_getElem?_getD, List.getElem?_drop]

/-- 1009 is prime. -/
theorem dp_prime {d : Nat} {a : Int} (h0 : 0 < d) (h1 : d < 1009) (h : Dp ((d : Int) * a)) : Dp a := by
  have h2 : (1009 : Nat) ∣ d * a.natAbs := by
    have := Int.natAbs_dvd_natAbs.2 h
    rwa [Int.natAbs_mul, Int.natAbs_natCast] at this
  have hc : Nat.Coprime 1009 d := by
    have h3 : scMul (d : Int) (scInv (d : Int)) = 1 := scMul_inv (by omega) (by omega)
    rw [scMul_eq] at h3
    unfold sca at h3
    have hg : ((Nat.gcd 1009 d : Nat) : Int) ∣ 1 := by
      have e1 : ((Nat.gcd 1009 d : Nat) : Int) ∣ (1009 : Int) := Int.natCast_dvd_natCast.2 (Nat.gcd_dvd_left 1009 d)
      have e2 : ((Nat.gcd 1009 d : Nat) : Int) ∣ (d : Int) := Int.natCast_dvd_natCast.2 (Nat.gcd_dvd_right 1009 d)
      have e3 : (1 : Int) = (d : Int) * scInv d - 1009 * ((d : Int) * scInv d / 1009) := by omega
      rw [e3]
      exact Int.dvd_sub (Int.dvd_mul_of_dvd_left e2) (Int.dvd_mul_of_dvd_left e1)
    have := Int.natCast_dvd_natCast.1 (show ((Nat.gcd 1009 d : Nat) : Int) ∣ ((1 : Nat) : Int) from hg)
    exact Nat.dvd_one.1 this
  have h4 : (1009 : Nat) ∣ a.natAbs := hc.dvd_of_dvd_mul_left h2
  exact Int.natAbs_dvd_natAbs.1 h4

/-- As many places as numbers at which it is 0: it is 0. -/
theorem roots (n : Nat) : ∀ (s : Nat) (l : List Int), n ≤ 1000 → (∀ j, n ≤ j → Dp (l.getD j 0)) → (∀ i, i < n → Dp (ev l ((s + i : Nat) : Int))) → ∀ j, Dp (l.getD j 0) := by
  induction n with
  | zero => exact fun s l _ h _ j => h j (Nat.zero_le _)
  | succ n ih =>
    intro s l hn h hr
    have hc : Dp (ev l ((s : Nat) : Int)) := hr 0 (by omega)
    have hq : ∀ j, Dp ((syn (s : Int) l).getD j 0) := by
      refine ih (s + 1) (syn (s : Int) l) (by omega) ?_ ?_
      · intro j hj
        rw [syn_at]
        refine ev_zero _ _ fun i => ?_
        rw [getD_drop0]
        exact h _ (by omega)
      · intro i hi
        have h1 := syn_ev (s : Int) ((s + 1 + i : Nat) : Int) l
        have h2 := hr (i + 1) (by omega)
        have h3 : Dp (((s + 1 + i : Nat) : Int) - (s : Int)) → True := fun _ => trivial
        have e : s + (i + 1) = s + 1 + i := by omega
        rw [e] at h2
        refine dp_prime (d := i + 1) (by omega) (by omega) ((h2.sub hc).of ?_)
        rw [← h1]
        congr 1
        omega
    intro j
    have h1 := drop_ev (s : Int) l j
    have h2 := hq j
    rw [syn_at] at h2
    have h3 : Dp (ev (l.drop j) (s : Int)) := by
      cases j with
      | zero => simpa using hc
      | succ j => have := hq j; rwa [syn_at] at this
    exact (h3.sub (h2.mul (s : Int))).of (by rw [h1]; grind)

theorem mk_neg_at (b : List Int) (j : Nat) : (b.map fun y => (-1) * y).getD j 0 = -(b.getD j 0) := by
  by_cases h : j < b.length
  · simp [h]
  · rw [getD_out (by simp; omega), getD_out (by omega)]; rfl
/-- A list of scalars is made out by its values. -/
theorem made_out {a b : List Int} (ha : Can a) (hb : Can b) (n : Nat) (hn : n ≤ 1000) (la : a.length ≤ n) (lb : b.length ≤ n) (h : ∀ i, i < n → Dp (ev a ((1 + i : Nat) : Int) - ev b ((1 + i : Nat) : Int))) : a = b := by
  refine can_eq ha hb fun j => ?_
  have h1 := roots n 1 (addL a (b.map fun y => (-1) * y)) hn ?_ ?_ j
  · rw [addL_getD, mk_neg_at] at h1
    exact h1.of (by omega)
  · intro j hj
    rw [addL_getD, mk_neg_at, getD_out (by omega), getD_out (by omega)]
    exact dp_zero
  · intro i hi
    rw [ev_addL, ev_map]
    exact (h i hi).of (by omega)

end Go.Proofs.Ytbkfdafdchjakab

/-
  The walks of the program's lists of numbers: each, at, with, trimmed; PolyTrim, PolyAdd.
  (-DROP-: what the seat lacks is left out.)
-/
namespace Go.Proofs.Ytbkfdafdchjakab
open Go.RowKit

/-- The first so many of a list. -/
theorem RowZs.take {B : Nat} {w : World} {a : Option Addr} {n c : Nat} {l : List Int} (h : RowZs B w (.slice a n c) l) (k : Nat) (hk : k ≤ l.length) : RowZs B w (.slice a k c) (l.take k) := by
  rcases h.2 with ⟨h0, h1⟩ | ⟨g, c', cur, hv, hg, hh, h1, h2, h3, h4⟩
  · injection h0 with e1 e2 e3
    subst e1
    subst e3
    have e : k = 0 := by omega
    subst e
    exact ⟨rfl, .inl ⟨rfl, rfl⟩⟩
  · injection hv with e1 e2 e3
    subst e1
    subst e3
    have hl : (l.take k).length = k := by simp [hk]
    unfold RowZs
    rw [hl]
    refine ⟨by simp [zsV, hk], .inr ⟨g, c, cur, rfl, hg, hh, by omega, h2, h3, ?_⟩⟩
    have h5 := congrArg (List.take k) h4
    rw [List.take_take, Nat.mul_one, Nat.min_eq_left hk] at h5
    rw [Nat.mul_one, h5]
    simp [zsV]
theorem RowZs.cap {B : Nat} {w : World} {a : Option Addr} {n c : Nat} {l : List Int} (h : RowZs B w (.slice a n c) l) : l.length ≤ c := by
  rcases h.2 with ⟨h0, h1⟩ | ⟨g, c', cur, hv, hg, hh, h1, h2, h3, h4⟩
  · omega
  · injection hv with e1 e2 e3; omega
theorem RowZs.len {B : Nat} {w : World} {a : Option Addr} {n c : Nat} {l : List Int} (h : RowZs B w (.slice a n c) l) : n = l.length := by
  rcases h.2 with ⟨h0, h1⟩ | ⟨g, c', cur, hv, hg, hh, h1, h2, h3, h4⟩
  · injection h0 with e1 e2 e3; omega
  · injection hv with e1 e2 e3
/-- The cells of a list. -/
theorem RowZs.cellZ {B : Nat} {w : World} {v : Value} {l : List Int} (h : RowZs B w v l) {j : Nat} (hj : j < l.length) : ∃ g c, v = .slice (some ⟨g, 0, none⟩) l.length c ∧ B ≤ g ∧ g < w.heap.size ∧ w.cell? ⟨g, j, none⟩ = some (.int .i64 (l.getD j 0)) ∧ w.frozen? ⟨g, j, none⟩ = false := by
  rcases h.2 with ⟨rfl, h0⟩ | ⟨g, cp, cur, rfl, hg, hh, hrest⟩
  · omega
  · refine ⟨g, cp, rfl, hg, (Array.getElem?_eq_some_iff.1 hh).1, ?_, frozen_of_row w g j _ 3 hh⟩
    have hc := h.cellAt j (by omega)
    rw [hc]
    simp [zsV, hj]
/-- A number is stored. -/
theorem RowZs.put {B : Nat} {w : World} {g n c : Nat} {l : List Int} (h : RowZs B w (.slice (some ⟨g, 0, none⟩) n c) l) (j : Nat) (x : Int) : RowZs B (w.setCell ⟨g, j, none⟩ (.int .i64 x)) (.slice (some ⟨g, 0, none⟩) n c) (l.set j x) := by
  have e := h.len
  subst e
  have h1 := (World.ownsRow.stored h j (.int .i64 x)).1
  unfold RowZs
  rw [List.length_set]
  have e2 : zsV (l.set j x) = (zsV l).set j (.int .i64 x) := by simp [zsV, List.map_set]
  rw [e2]
  exact h1

/-- make(numbers[int], n). -/
theorem make_nums (n m : Nat) (h1 : n ≤ m) (h2 : m ≤ 1073741824) (W : World) :
    (Instr.makeSlice 165 (.int .i64 (n : Int)) (.int .i64 (m : Int))).run Try.prog W = .ok (.slice (some ⟨W.heap.size, 0, none⟩) n m) (W.alloc (.cells (ic (fun _ => 0) m) 3)) := by
  obtain ⟨i0, hi, hz0, hz1, hz2⟩ := info_parts info3I
  have hM : madeCells (Value.int .i64 0).cells ((m : Int).toNat * i0.size) = ic (fun _ => 0) m := by
    rw [hz1]
    have h3 := toList_madeCells_one (.int .i64 0) m
    apply Array.toList_inj.1
    have e : (ic (fun _ => 0) m).toList = List.replicate m (Value.int .i64 0) := by
      simp [ic, List.map_const', List.length_range]
    rw [e]
    simpa [Value.cells] using h3
  have h := run_make (P := Try.prog) W 165 3 i0 (.int .i64 0) Try.underlying165 hi hz0 .i64 .i64 (n : Int) (m : Int) (by omega) (by omega) (by rw [hz2]; omega) (by omega)
  rw [hM] at h
  simpa using h

set_option maxHeartbeats 1600000 in
set_option maxRecDepth 100000 in
theorem trimmed_any (v : Value) (l : List Int) (hl : l.length ≤ 1048576) (B : Nat) (w : World) (h : RowZs B w v l) :
    Calls Try.prog 148 #[v] w fun e w' => ∃ a n c, v = .slice a n c ∧ e = .returned (.slice a (trimZ l).length c) ∧ RowZs B w (.slice a (trimZ l).length c) (trimZ l) ∧ w = w' := by
  obtain ⟨a, c, hv⟩ := row_form h
  subst hv
  have HR : Hid (RowZs B w (.slice a l.length c) l) := h
  obtain ⟨n, hn⟩ : ∃ n, n = l.length := ⟨_, rfl⟩
  have HN : Hid (n = l.length) := hn
  have hcap : n ≤ c := by have := h.cap; omega
  rw [← hn] at HR hl ⊢
  clear hn h
  go_enter Try.func148, Try.ntmps148
  go_wp2
  go_loopw [3] (fun i wr => ∃ k : Nat, i = .int .i64 (k : Int) ∧ k ≤ n ∧ Hid (trimZ (l.take k) = trimZ l) ∧ w = wr) (fun i _ => (intOf i).toNat)
  case atStart => exact ⟨n, rfl, Nat.le_refl _, by show _ = _; rw [HN.out, List.take_length], rfl⟩
  case round =>
    obtain ⟨k, rfl, hk, HT, rfl⟩ := hrel
    have hkl : k ≤ l.length := by have := HN.out; omega
    by_cases h0 : 0 < k
    · obtain ⟨j, rfl⟩ : ∃ j, k = j + 1 := ⟨k - 1, by omega⟩
      have hj : j < l.length := by omega
      have HTK : Hid (l.take (j + 1) = l.take j ++ [l.getD j 0]) := by
        show _ = _
        rw [List.take_succ_eq_append_getElem hj]
        simp [hj]
      obtain ⟨g, c', hv, hg, hgs, hz, hf⟩ := HR.out.cellZ hj
      have ha : a = some ⟨g, 0, none⟩ := by injection hv
      subst ha
      have hi1 : ((j + 1 : Nat) : Int) - 1 = (j : Int) := by omega
      have hi2 : (0 : Int) ≤ (j : Int) := by omega
      have hi3 : (j : Int) < (n : Int) := by omega
      have hi4 : ((j + 1 : Nat) : Int) > 0 := by omega
      clear hv hg hgs hf
      by_cases hx : l.getD j 0 = 0
      · rw [hx] at hz HTK
        have HT2 : Hid (trimZ (l.take j) = trimZ l) := by
          show _ = _
          rw [← HT.out, HTK.out, trimZ_zero]
        clear HT HTK hx
        go_wp2
        go_roundw
        case rel => exact ⟨j, by go_num, by omega, HT2, trivial⟩
        case measure => simp [intOf]
      · have HE : Hid (l.take (j + 1) = trimZ l) := by
          show _ = _
          rw [← HT.out, HTK.out, trimZ_some _ hx]
        have hx' : (l.getD j 0 == 0) = false := by rw [beq_eq_false_iff_ne]; exact hx
        have HL : Hid ((trimZ l).length = j + 1) := by
          show _ = _
          rw [← HE.out, List.length_take]
          omega
        have HR2 : Hid (RowZs B w (.slice (some ⟨g, 0, none⟩) (j + 1) c) (trimZ l)) := by
          have := HR.out.take (j + 1) (by omega)
          rwa [HE.out] at this
        generalize l.getD j 0 = z at *
        have hcc : ((j + 1 : Nat) : Int) ≤ (c : Int) := by omega
        clear HT HTK
        go_wp2
        go_ret
        exact ⟨_, _, _, rfl, by rw [HL.out]; rfl, by rw [HL.out]; exact HR2.out, rfl⟩
    · obtain rfl : k = 0 := by omega
      have HE : Hid (trimZ l = []) := by show _ = _; rw [← HT.out]; rfl
      have HR2 : Hid (RowZs B w (.slice a 0 c) []) := by
        have := HR.out.take 0 (by omega)
        exact this
      have hcc : (0 : Int) ≤ (c : Int) := by omega
      clear HT
      go_wp2
      go_ret
      exact ⟨_, _, _, rfl, by rw [HE.out]; rfl, by rw [HE.out]; exact HR2.out, rfl⟩

theorem map_zls (l : List Int) : zls (fun j => sca (l.getD j 0)) l.length = l.map sca := by
  apply List.ext_getElem
  · simp [zls]
  · intro i h1 h2
    have h3 : i < l.length := by simpa using h2
    simp [zls, h3]

end Go.Proofs.Ytbkfdafdchjakab

/-
  The product of two polynomials, as a list: no program in here.
-/
namespace Go.Proofs.Ytbkfdafdchjakab

/-- So often a list put to another, from a place on. -/
def shF (p : List Int) (s : Nat) (k : Int) (b : List Int) (j : Nat) : Int := if s ≤ j ∧ j < s + b.length then scAdd (p.getD j 0) (scMul k (b.getD (j - s) 0)) else p.getD j 0
def addSh (p : List Int) (s : Nat) (k : Int) (b : List Int) : List Int := zls (shF p s k b) p.length
theorem addSh_len (p : List Int) (s : Nat) (k : Int) (b : List Int) : (addSh p s k b).length = p.length := zls_length _ _
theorem addSh_nil (p : List Int) (s : Nat) (k : Int) : addSh p s k [] = p := by
  refine (congrArg (fun f => zls f p.length) (funext fun j => ?_)).trans (zls_getD p)
  unfold shF
  rw [if_neg (by simp only [List.length_nil]; omega)]
theorem addSh_at (p : List Int) (s : Nat) (k : Int) (b : List Int) (h : s + b.length ≤ p.length) (j : Nat) : (addSh p s k b).getD j 0 = shF p s k b j := by
  by_cases hj : j < p.length
  · exact zls_at _ hj
  · rw [getD_out (by rw [addSh_len]; omega)]
    unfold shF
    rw [if_neg (by omega), getD_out (by omega)]
theorem ext_getD {a b : List Int} (hl : a.length = b.length) (h : ∀ j, a.getD j 0 = b.getD j 0) : a = b := by
  refine List.ext_getElem hl fun j p q => ?_
  have := h j
  rwa [getD_inZ p, getD_inZ q] at this
theorem take_at (b : List Int) {t j : Nat} (h : j < t) : (b.take t).getD j 0 = b.getD j 0 := by
  simp [List.getD_eq_getElem?_getD, h]
theorem set_at (l : List Int) (i j : Nat) (x : Int) (h : i < l.length) : (l.set i x).getD j 0 = if j = i then x else l.getD j 0 := by
  by_cases e : j = i
  · subst e; simp [h]
  · rw [if_neg e]
    simp [List.getD_eq_getElem?_getD, Ne.symm e]
/-- One place more. -/
theorem addSh_next (p : List Int) (s : Nat) (k : Int) (b : List Int) (h : s + b.length ≤ p.length) {t : Nat} (ht : t < b.length) :
    (addSh p s k (b.take t)).set (s + t) (scAdd (p.getD (s + t) 0) (scMul k (b.getD t 0))) = addSh p s k (b.take (t + 1)) := by
  have l1 : (b.take t).length = t := by simp; omega
  have l2 : (b.take (t + 1)).length = t + 1 := by simp; omega
  refine ext_getD (by rw [List.length_set, addSh_len, addSh_len]) fun j => ?_
  rw [set_at _ _ _ _ (by rw [addSh_len]; omega), addSh_at _ _ _ _ (by omega), addSh_at _ _ _ _ (by omega)]
  unfold shF
  rw [l1, l2]
  by_cases e : j = s + t
  · subst e
    rw [if_pos rfl, if_pos (by omega), show s + t - s = t by omega, take_at b (by omega)]
  · rw [if_neg e]
    by_cases h2 : s ≤ j ∧ j < s + t
    · rw [if_pos h2, if_pos (by omega), take_at b (by omega), take_at b (by omega)]
    · rw [if_neg h2, if_neg (by omega)]
theorem addSh_new (p : List Int) (s : Nat) (k : Int) (b : List Int) (h : s + b.length ≤ p.length) {t : Nat} (ht : t < b.length) : (addSh p s k (b.take t)).getD (s + t) 0 = p.getD (s + t) 0 := by
  have l1 : (b.take t).length = t := by simp; omega
  rw [addSh_at _ _ _ _ (by omega)]
  unfold shF
  rw [l1, if_neg (by omega)]
theorem addSh_sc {p : List Int} (s : Nat) (k : Int) {b : List Int} (h : s + b.length ≤ p.length) (hp : ∀ j, Sc (p.getD j 0)) (j : Nat) : Sc ((addSh p s k b).getD j 0) := by
  rw [addSh_at _ _ _ _ h]
  unfold shF
  split
  · exact sc_add _ _
  · exact hp j
theorem addSh_ev (x : Int) (p : List Int) (s : Nat) (k : Int) (b : List Int) (h : s + b.length ≤ p.length) : Dp (ev (addSh p s k b) x - (ev p x + x ^ s * (k * ev b x))) := by
  have h1 := ev_congr x (addSh p s k b) (addL p (List.replicate s 0 ++ b.map fun y => k * y)) fun j => ?_
  · rw [ev_addL, ev_shift, ev_map] at h1
    exact h1
  · rw [addSh_at _ _ _ _ h, addL_getD, shift_getD]
    have hm : ∀ i, (b.map fun y => k * y).getD i 0 = k * b.getD i 0 := fun i => by
      by_cases hi : i < b.length
      · simp [hi]
      · rw [getD_out (by simp; omega), getD_out (by omega), Int.mul_zero]
    rw [hm]
    unfold shF
    by_cases h1 : s ≤ j ∧ j < s + b.length
    · rw [if_pos h1, if_pos h1.1]
      exact ((dp_scAdd (p.getD j 0) (scMul k (b.getD (j - s) 0))).add (dp_scMul k (b.getD (j - s) 0))).of (by omega)
    · rw [if_neg h1]
      by_cases h2 : s ≤ j
      · rw [if_pos h2, getD_out (l := b) (by omega), Int.mul_zero]
        exact dp_zero.of (by omega)
      · rw [if_neg h2]
        exact dp_zero.of (by omega)

/-- A list for each number of another, shifted by its place. -/
def mulR (b : List Int) : List Int → Nat → List Int → List Int
  | [], _, p => p
  | k :: t, i, p => mulR b t (i + 1) (addSh p i k b)
theorem mulR_len (b : List Int) : ∀ (a : List Int) (i : Nat) (p : List Int), (mulR b a i p).length = p.length
  | [], _, _ => rfl
  | k :: t, i, p => by rw [mulR, mulR_len b t, addSh_len]
theorem mulR_nil : ∀ (a : List Int) (i : Nat) (p : List Int), mulR [] a i p = p
  | [], _, _ => rfl
  | k :: t, i, p => by rw [mulR, addSh_nil, mulR_nil t]
theorem mulR_sc (b : List Int) : ∀ (a : List Int) (i : Nat) (p : List Int), i + a.length + b.length ≤ p.length + 1 → (∀ j, Sc (p.getD j 0)) → ∀ j, Sc ((mulR b a i p).getD j 0)
  | [], _, _, _, h, j => h j
  | k :: t, i, p, h0, h, j => by
    rw [List.length_cons] at h0
    exact mulR_sc b t (i + 1) _ (by rw [addSh_len]; omega) (addSh_sc i k (by omega) h) j
theorem mulR_congr (b : List Int) : ∀ (a : List Int) (i : Nat) (p q : List Int), i + a.length + b.length ≤ p.length + 1 → i + a.length + b.length ≤ q.length + 1 → (∀ j, p.getD j 0 = q.getD j 0) → ∀ j, (mulR b a i p).getD j 0 = (mulR b a i q).getD j 0
  | [], _, _, _, _, _, h, j => h j
  | k :: t, i, p, q, h0, h1, h, j => by
    rw [List.length_cons] at h0 h1
    refine mulR_congr b t (i + 1) _ _ (by rw [addSh_len]; omega) (by rw [addSh_len]; omega) (fun j => ?_) j
    rw [addSh_at _ _ _ _ (by omega), addSh_at _ _ _ _ (by omega)]
    unfold shF
    rw [h j]
theorem mulR_ev (x : Int) (b : List Int) : ∀ (a : List Int) (i : Nat) (p : List Int), i + a.length + b.length ≤ p.length + 1 → Dp (ev (mulR b a i p) x - (ev p x + x ^ i * (ev a x * ev b x)))
  | [], i, p, _ => dp_zero.of (by show ev p x - (ev p x + x ^ i * (0 * ev b x)) = 0; grind)
  | k :: t, i, p, h0 => by
    rw [List.length_cons] at h0
    have h1 := mulR_ev x b t (i + 1) (addSh p i k b) (by rw [addSh_len]; omega)
    have h2 := addSh_ev x p i k b (by omega)
    refine (h1.add h2).of ?_
    show ev (mulR b t (i + 1) (addSh p i k b)) x - (ev p x + x ^ i * ((k + x * ev t x) * ev b x)) = _
    rw [Int.pow_succ]
    grind
theorem rep_at (n j : Nat) : (List.replicate n (0 : Int)).getD j 0 = 0 := by
  by_cases h : j < n
  · simp [h]
  · exact getD_out (by simp; omega)
theorem ev_rep (x : Int) (n : Nat) : ev (List.replicate n 0) x = 0 := by
  have := ev_shift x [] n
  rw [List.append_nil] at this
  rw [this]
  show x ^ n * 0 = 0
  exact Int.mul_zero _
theorem trim_rep (n : Nat) : trimZ (List.replicate n 0) = [] := List.length_eq_zero_iff.1 (by have := trim_len_lt (l := List.replicate n (0 : Int)) (n := 0) fun j _ => rep_at n j; omega)
def qMul (a b : List Int) : List Int := if 64 < a.length ∨ 64 < b.length then [] else trimZ (mulR b a 0 (List.replicate (a.length + b.length) 0))
theorem qMul_short (a b : List Int) (ha : 0 < a.length ∧ a.length ≤ 64) (hb : 0 < b.length ∧ b.length ≤ 64) : pTrim (mulR b a 0 (List.replicate (a.length + b.length - 1) 0)) = qMul a b := by
  unfold qMul
  rw [if_neg (by omega)]
  have h1 := mulR_sc b a 0 (List.replicate (a.length + b.length) 0) (by simp) (fun j => by rw [rep_at]; exact sc_zero)
  refine can_eq (pTrim_can _) (Can.of_trim _ h1) fun j => ?_
  rw [pTrim_at, trimZ_at, mulR_congr b a 0 (List.replicate (a.length + b.length - 1) 0) (List.replicate (a.length + b.length) 0) (by simp; omega) (by simp) (fun j => by rw [rep_at, rep_at]) j]
  exact dp_sca _
theorem qMul_left (b : List Int) : qMul [] b = [] := by
  unfold qMul
  split
  · rfl
  · exact trim_rep _
theorem qMul_right (a : List Int) : qMul a [] = [] := by
  unfold qMul
  split
  · rfl
  · rw [mulR_nil]; exact trim_rep _
theorem qMul_can (a b : List Int) : Can (qMul a b) := by
  unfold qMul
  split
  · exact ⟨fun j => by rw [getD_nil]; exact sc_zero, rfl⟩
  · exact Can.of_trim _ (mulR_sc b a 0 _ (by simp) (fun j => by rw [rep_at]; exact sc_zero))
theorem trimZ_ev (x : Int) (l : List Int) : Dp (ev (trimZ l) x - ev l x) := ev_congr x _ _ fun j => by rw [trimZ_at]; exact dp_zero.of (by omega)
theorem pTrim_ev (x : Int) (l : List Int) : Dp (ev (pTrim l) x - ev l x) := ev_congr x _ _ fun j => by rw [pTrim_at]; exact dp_sca _
theorem qMul_ev (x : Int) (a b : List Int) (ha : a.length ≤ 64) (hb : b.length ≤ 64) : Dp (ev (qMul a b) x - ev a x * ev b x) := by
  unfold qMul
  rw [if_neg (by omega)]
  have h1 := mulR_ev x b a 0 (List.replicate (a.length + b.length) 0) (by simp)
  rw [ev_rep] at h1
  exact ((trimZ_ev x (mulR b a 0 (List.replicate (a.length + b.length) 0))).add h1).of (by simp; grind)
/-- One that both have numbers for is as long as both, but for one. -/
theorem qMul_len2 (a b : List Int) (n : Nat) (h : a.length + b.length ≤ n + 1) : (qMul a b).length ≤ n := by
  by_cases ha : a = []
  · subst ha; rw [qMul_left]; exact Nat.zero_le _
  · by_cases hb : b = []
    · subst hb; rw [qMul_right]; exact Nat.zero_le _
    · have h1 := List.length_pos_iff.2 ha
      have h2 := List.length_pos_iff.2 hb
      by_cases hl : 64 < a.length ∨ 64 < b.length
      · unfold qMul
        rw [if_pos hl]
        exact Nat.zero_le _
      · rw [← qMul_short a b (by omega) (by omega)]
        refine Nat.le_trans (pTrim_len _) ?_
        rw [mulR_len, List.length_replicate]
        omega
theorem qMul_len (a b : List Int) : (qMul a b).length ≤ 1048576 := by
  by_cases hl : 64 < a.length ∨ 64 < b.length
  · unfold qMul
    rw [if_pos hl]
    exact Nat.zero_le _
  · exact qMul_len2 a b _ (by omega)
theorem qMul_128 (a b : List Int) : (qMul a b).length ≤ 127 := by
  by_cases hl : 64 < a.length ∨ 64 < b.length
  · unfold qMul
    rw [if_pos hl]
    exact Nat.zero_le _
  · exact qMul_len2 a b _ (by omega)

theorem qAdd_can (a b : List Int) : Can (qAdd a b) := pTrim_can _
theorem qAdd_ev (x : Int) (a b : List Int) : Dp (ev (qAdd a b) x - (ev a x + ev b x)) := by
  have h1 := ev_congr x (qAdd a b) (addL a b) fun j => ?_
  · rw [ev_addL] at h1
    exact h1
  · have hz : (zls (padF a b) (max a.length b.length)).getD j 0 = padF a b j := by
      by_cases hj : j < max a.length b.length
      · exact zls_at _ hj
      · rw [getD_out (by rw [zls_length]; omega)]
        unfold padF
        rw [if_neg (by omega), if_neg (by omega)]
    rw [addL_getD, show qAdd a b = pTrim (zls (padF a b) (max a.length b.length)) from rfl, pTrim_at, hz]
    refine ((dp_sca (padF a b j)).add (?_ : Dp (padF a b j - (a.getD j 0 + b.getD j 0)))).of (by omega)
    unfold padF
    by_cases hb : j < b.length <;> by_cases ha : j < a.length
    · rw [if_pos hb, if_pos ha]
      exact ((dp_scAdd (scAdd 0 (a.getD j 0)) (b.getD j 0)).add (dp_scAdd 0 (a.getD j 0))).of (by omega)
    · rw [if_pos hb, if_neg ha, getD_out (l := a) (by omega)]
      exact (dp_scAdd 0 (b.getD j 0)).of (by omega)
    · rw [if_neg hb, if_pos ha, getD_out (l := b) (by omega)]
      exact (dp_scAdd 0 (a.getD j 0)).of (by omega)
    · rw [if_neg hb, if_neg ha, getD_out (l := a) (by omega), getD_out (l := b) (by omega)]
      exact dp_zero.of (by omega)

end Go.Proofs.Ytbkfdafdchjakab

/-
  The walk of the specification's product of polynomials.
  (-DROP-: what the seat lacks is left out.)
-/
namespace Go.Proofs.Ytbkfdafdchjakab
open Go.RowKit

theorem rowZ_none (w : World) (n : Nat) (hn : n ≤ 1048576) : RowZs w.heap.size (w.alloc (.cells (ic (fun _ => 0) n) 3)) (.slice (some ⟨w.heap.size, 0, none⟩) n n) (List.replicate n 0) := by
  have h := (rowI_new w (fun _ => 0) n).rowZ (Nat.le_refl _) hn
  have e : zls (fun _ => 0) n = List.replicate n 0 := by simp [zls, List.map_const']
  rwa [e] at h
theorem RowZs.heap {B : Nat} {w w' : World} {v : Value} {l : List Int} (h : RowZs B w v l) (e : w'.heap = w.heap) : RowZs B w' v l :=
  owns_same (lo := 0) (hi := w.heap.size) h (fun k _ _ => by rw [e]) (fun k hk => ⟨Nat.zero_le _, (h.lt k hk).2⟩)
theorem cell_heap {w w' : World} {p : Addr} {x : Option Value} (h : w.cell? p = x) (e : w'.heap = w.heap) : w'.cell? p = x := (World.cell?_of_block (by rw [e])).trans h
theorem free_heap {w w' : World} {p : Addr} (h : w.frozen? p = false) (e : w'.heap = w.heap) : w'.frozen? p = false := by
  rw [← h]
  unfold World.frozen?
  rw [e]

set_option maxHeartbeats 3200000 in
set_option maxRecDepth 100000 in
theorem sQMul_any (v u : Value) (l m : List Int) (hl : l.length ≤ 1048576) (hm : m.length ≤ 1048576) (w : World) (h : ZAt w w.heap.size v l) (h2 : ZAt w w.heap.size u m) : Calls Try.prog 125 #[v, u] w fun e w' => ∃ u, e = .returned u ∧ ZOwn w.heap.size w'.heap.size w' u (qMul l m) ∧ Below w.heap.size w w' := by
  obtain ⟨a, cp, rfl, hA⟩ := h
  obtain ⟨b, cq, rfl, hB⟩ := h2
  have HA : Hid (IntsAt w a l.length w.heap.size (fun j => l.getD j 0)) := hA
  have HB : Hid (IntsAt w b m.length w.heap.size (fun j => m.getD j 0)) := hB
  clear hA hB
  by_cases hbig : l.length = 0 ∨ m.length = 0 ∨ 64 < l.length ∨ 64 < m.length
  · have HE : Hid (qMul l m = []) := by
      show _ = _
      rcases hbig with h | h | h
      · rw [List.length_eq_zero_iff.1 h, qMul_left]
      · rw [List.length_eq_zero_iff.1 h, qMul_right]
      · unfold qMul; rw [if_pos h]
    generalize hla : l.length = la at *
    generalize hlb : m.length = lb at *
    clear hla hlb HA HB
    by_cases h1 : la = 0
    · subst h1
      clear hbig
      go_enter Try.func125, Try.ntmps125
      go_wp2
      go_ret
      exact ⟨_, rfl, by rw [HE.out]; exact ZOwn.of (World.ownsRow_lit _ _ _ (Nat.le_refl _) (by simp [maxLen]) (by simp)), (Below.refl _ _).alloc (Nat.le_refl _) _⟩
    · have h1' : ((la : Int) == 0) = false := by rw [beq_eq_false_iff_ne]; omega
      by_cases h2 : lb = 0
      · subst h2
        clear hbig
        go_enter Try.func125, Try.ntmps125
        go_wp2
        go_ret
        exact ⟨_, rfl, by rw [HE.out]; exact ZOwn.of (World.ownsRow_lit _ _ _ (Nat.le_refl _) (by simp [maxLen]) (by simp)), (Below.refl _ _).alloc (Nat.le_refl _) _⟩
      · have h2' : ((lb : Int) == 0) = false := by rw [beq_eq_false_iff_ne]; omega
        by_cases h3 : 64 < la
        · have h3' : (la : Int) > 64 := by omega
          clear hbig h1 h2
          go_enter Try.func125, Try.ntmps125
          go_wp2
          go_ret
          exact ⟨_, rfl, by rw [HE.out]; exact ZOwn.of (World.ownsRow_lit _ _ _ (Nat.le_refl _) (by simp [maxLen]) (by simp)), (Below.refl _ _).alloc (Nat.le_refl _) _⟩
        · have h3' : ¬ (la : Int) > 64 := by omega
          have h4' : (lb : Int) > 64 := by omega
          clear hbig h1 h2
          go_enter Try.func125, Try.ntmps125
          go_wp2
          go_ret
          exact ⟨_, rfl, by rw [HE.out]; exact ZOwn.of (World.ownsRow_lit _ _ _ (Nat.le_refl _) (by simp [maxLen]) (by simp)), (Below.refl _ _).alloc (Nat.le_refl _) _⟩
  · have hl0 : ((l.length : Int) == 0) = false := by rw [beq_eq_false_iff_ne]; omega
    have hm0 : ((m.length : Int) == 0) = false := by rw [beq_eq_false_iff_ne]; omega
    have hl64 : ¬ (l.length : Int) > 64 := by omega
    have hm64 : ¬ (m.length : Int) > 64 := by omega
    have hlm : l.length ≤ 64 ∧ m.length ≤ 64 ∧ 0 < l.length ∧ 0 < m.length := by omega
    obtain ⟨n, hn⟩ : ∃ n, n = l.length + m.length - 1 := ⟨_, rfl⟩
    have HE : Hid (pTrim (mulR m (l.drop 0) 0 (List.replicate n 0)) = qMul l m) := by
      show _ = _
      rw [hn]
      exact qMul_short l m (by omega) (by omega)
    have HD : Hid (∀ k, k < l.length → l.drop k = l.getD k 0 :: l.drop (k + 1)) := fun k hk => drop_at hk
    have HD0 : Hid (l.drop l.length = []) := by show _ = _; simp
    have hmk : ∀ W : World, (Instr.makeSlice 27 (.int .i64 (n : Int)) (.int .i64 (n : Int))).run Try.prog W = .ok (.slice (some ⟨W.heap.size, 0, none⟩) n n) (W.alloc (.cells (ic (fun _ => 0) n) 3)) := fun W => make_ints n n (Nat.le_refl _) (by omega) W
    have H0 : Hid (RowZs w.heap.size (w.alloc (.cells (ic (fun _ => 0) n) 3)) (.slice (some ⟨w.heap.size, 0, none⟩) n n) (List.replicate n 0)) := rowZ_none w n (by omega)
    generalize ic (fun _ => 0) n = M at hmk H0
    have HMT : Hid (∀ (p : List Int) (s : Nat) (k : Int), addSh p s k (m.take m.length) = addSh p s k m) := fun p s k => by rw [List.take_length]
    have HX : Hid (∀ (p : List Int) (s : Nat) (k : Int) (t : Nat), t < m.length → s + m.length ≤ p.length → (addSh p s k (m.take t)).getD (s + t) 0 = p.getD (s + t) 0) := fun p s k t ht hs => addSh_new p s k m hs ht
    have HY : Hid (∀ (p : List Int) (s : Nat) (k : Int) (t : Nat), t < m.length → s + m.length ≤ p.length → (addSh p s k (m.take t)).set (s + t) (scAdd (p.getD (s + t) 0) (scMul k (m.getD t 0))) = addSh p s k (m.take (t + 1))) := fun p s k t ht hs => addSh_next p s k m hs ht
    generalize hla : l.length = la at *
    generalize hlb : m.length = lb at *
    have hsum : (la : Int) + (lb : Int) - 1 = (n : Int) := by omega
    have hw1 : IntKind.i64.wrap ((la : Int) + (lb : Int)) = (la : Int) + (lb : Int) := IntWalk.i64_in _ (by omega)
    have hw2 : IntKind.i64.wrap (n : Int) = (n : Int) := IntWalk.i64_in _ (by omega)
    have hnn : n + 1 ≤ la + lb ∧ la + lb ≤ n + 1 := by omega
    clear hla hlb hbig hn
    go_enter Try.func125, Try.ntmps125
    go_wp2
    go_loopw [6] (fun i wr => ∃ (k : Nat) (p : List Int), i = .int .i64 (k : Int) ∧ k ≤ la ∧ Hid (p.length = n) ∧ Hid (pTrim (mulR m (l.drop k) k p) = qMul l m) ∧ Hid (RowZs w.heap.size wr (.slice (some ⟨w.heap.size, 0, none⟩) n n) p) ∧ Hid (Below w.heap.size w wr)) (fun i _ => la - (intOf i).toNat)
    case atStart => exact ⟨0, _, rfl, Nat.zero_le _, by show _ = _; simp, HE, H0, (Below.refl _ _).alloc (Nat.le_refl _) _⟩
    case round =>
      obtain ⟨k, p, rfl, hk, HPL, HQ, HR, HW⟩ := hrel
      clear hmk H0 HE hsum hw1 hw2
      by_cases hlt : k < la
      · have hlt' : (k : Int) < (la : Int) := by omega
        have hk0 : (0 : Int) ≤ (k : Int) := by omega
        have HQ2 : Hid (pTrim (mulR m (l.drop (k + 1)) (k + 1) (addSh p k (l.getD k 0) (m.take lb))) = qMul l m) := by
          show _ = _
          rw [← HQ.out, HD.out k hlt, mulR, HMT.out]
        have HI : Hid (RowZs w.heap.size wr (.slice (some ⟨w.heap.size, 0, none⟩) n n) (addSh p k (l.getD k 0) (m.take 0))) := by
          show RowZs _ _ _ _
          rw [List.take_zero, addSh_nil]
          exact HR.out
        generalize wr = w0 at *
        clear HR HQ
        go_wp2
        go_loopw [7] (fun i wr => ∃ (t : Nat), i = .int .i64 (t : Int) ∧ t ≤ lb ∧ Hid (RowZs w.heap.size wr (.slice (some ⟨w.heap.size, 0, none⟩) n n) (addSh p k (l.getD k 0) (m.take t))) ∧ Hid (Below w.heap.size w wr)) (fun i _ => lb - (intOf i).toNat)
        case atStart => exact ⟨0, rfl, Nat.zero_le _, HI, HW⟩
        case round =>
          obtain ⟨t, rfl, ht, HR, HV⟩ := hrel
          clear HI HW
          by_cases htl : t < lb
          · have htl' : (t : Int) < (lb : Int) := by omega
            have ht0 : (0 : Int) ≤ (t : Int) := by omega
            have hpn : k + lb ≤ p.length := by rw [HPL.out]; omega
            have hxt := HX.out p k (l.getD k 0) t htl hpn
            have hyt := HY.out p k (l.getD k 0) t htl hpn
            generalize hii : k + t = i at hxt hyt
            have hst : (k : Int) + (t : Int) = (i : Int) := by omega
            have hst0 : (0 : Int) ≤ (i : Int) := by omega
            have hst1 : (i : Int) < (n : Int) := by omega
            have hwr : IntKind.i64.wrap (i : Int) = (i : Int) := IntWalk.i64_in _ (by omega)
            have hiL : i < n := by omega
            clear hii hpn
            obtain ⟨g', c', hv, hg1, hg2, hz, hf⟩ := HR.out.cellZ (j := i) (by rw [addSh_len, HPL.out]; exact hiL)
            rw [hxt] at hz
            have hgg : g' = w.heap.size := by injection hv with e1; injection e1 with e1; injection e1 with e1; exact e1.symm
            subst hgg
            obtain ⟨ba, offa, rfl, hba, hza⟩ := (HA.out.on HV.out) k hlt
            obtain ⟨bb, offb, rfl, hbb, hzb⟩ := (HB.out.on HV.out) t htl
            replace hza : wr.cell? ⟨ba, offa + k, none⟩ = some (.int .i64 (l.getD k 0)) := hza
            replace hzb : wr.cell? ⟨bb, offb + t, none⟩ = some (.int .i64 (m.getD t 0)) := hzb
            have CM : Hid (∀ w, Calls Try.prog 48 #[.int .i64 (l.getD k 0), .int .i64 (m.getD t 0)] w fun e w' => e = .returned (.int .i64 (scMul (l.getD k 0) (m.getD t 0))) ∧ w = w') := sScMul_any _ _
            have CA : Hid (∀ w, Calls Try.prog 47 #[.int .i64 (p.getD i 0), .int .i64 (scMul (l.getD k 0) (m.getD t 0))] w fun e w' => e = .returned (.int .i64 (scAdd (p.getD i 0) (scMul (l.getD k 0) (m.getD t 0)))) ∧ w = w') := sScAdd_any _ _
            obtain ⟨L, hL⟩ : ∃ L, L = addSh p k (l.getD k 0) (m.take t) := ⟨_, rfl⟩
            have HR2 : Hid (RowZs w.heap.size wr (.slice (some ⟨w.heap.size, 0, none⟩) n n) L) := by rw [hL]; exact HR
            rw [← hL] at hyt
            obtain ⟨L2, hL2⟩ : ∃ L, L = addSh p k (l.getD k 0) (m.take (t + 1)) := ⟨_, rfl⟩
            have HL2 : Hid (L2 = addSh p k (l.getD k 0) (m.take (t + 1))) := hL2
            rw [← hL2] at hyt
            have HNY : Hid (L.set i (scAdd (p.getD i 0) (scMul (l.getD k 0) (m.getD t 0))) = L2) := hyt
            have HC : Hid (∀ wz : World, wz.heap = wr.heap → wz.cell? ⟨w.heap.size, i, none⟩ = some (.int .i64 (p.getD i 0)) ∧ wz.frozen? ⟨w.heap.size, i, none⟩ = false ∧ wz.cell? ⟨ba, offa + k, none⟩ = some (.int .i64 (l.getD k 0)) ∧ wz.cell? ⟨bb, offb + t, none⟩ = some (.int .i64 (m.getD t 0))) := fun wz hwz => ⟨cell_heap hz hwz, free_heap hf hwz, cell_heap hza hwz, cell_heap hzb hwz⟩
            clear hyt hL hL2 hz hf hza hzb hxt hv hg1 hg2 HR
            generalize scAdd (p.getD i 0) (scMul (l.getD k 0) (m.getD t 0)) = y at CA HNY
            generalize scMul (l.getD k 0) (m.getD t 0) = q at CM CA
            generalize p.getD i 0 = x at HC CA
            generalize hlk : l.getD k 0 = lk at HC CM
            generalize m.getD t 0 = z at CM HC
            rw [hlk] at HL2 HQ2
            clear HX HY HA HB HD HD0 HMT
            go_wp2_with fail
            refine wp_region_last [(0, false), (1, false), (2, false), (3, false), (4, false), (5, false), (6, false), (7, false), (8, false), (9, false), (10, false), (11, false), (12, false), (13, false), (14, false), (15, false), (16, false), (17, false), (18, true), (19, true), (20, false)] 21 (fun wz => wz.heap = wr.heap) mixesSc (by kernel_rfl) rfl ?_
            repeat (refine ord_float rfl rfl (fun K hK => ⟨_, (fun w' hw => by have q0 := (HC.out w' hw).1; have q1 :=  (HC.out w' hw).2.2.1; have q2 :=  (HC.out w' hw).2.2.2; go_simp; exact rfl), ?_⟩); go_simp; refine hK _ ?_; clear hK K)
            refine ord_call rfl rfl (fun K hK => ⟨_, _, (by go_simp <;> first | exact rfl | exact ⟨rfl, rfl⟩), ?_⟩)
            refine (CM.out _).mono ?_
            rintro e u1 ⟨rfl, hu1⟩
            have T1 : u1.heap = wr.heap := (by rw [← hu1]; rfl)
            refine ⟨_, rfl, T1, ?_⟩
            go_simp
            refine hK _ _ ?_
            clear hK K
            repeat (refine ord_float rfl rfl (fun K hK => ⟨_, (fun w' hw => by have q0 := (HC.out w' hw).1; go_simp; exact rfl), ?_⟩); go_simp; refine hK _ ?_; clear hK K)
            refine ord_call rfl rfl (fun K hK => ⟨_, _, (by go_simp <;> first | exact rfl | exact ⟨rfl, rfl⟩), ?_⟩)
            refine (CA.out _).mono ?_
            rintro e u2 ⟨rfl, hu2⟩
            have T2 : u2.heap = wr.heap := (congrArg World.heap hu2.symm).trans T1
            refine ⟨_, rfl, T2, ?_⟩
            go_simp
            refine hK _ _ ?_
            clear hK K
            repeat (refine ord_float rfl rfl (fun K hK => ⟨_, (fun w' hw => by have q0 := (HC.out w' hw).1; go_simp; exact rfl), ?_⟩); go_simp; refine hK _ ?_; clear hK K)
            refine ord_nil ?_
            have hc2 := (HC.out u2 T2).1
            have hf2 := (HC.out u2 T2).2.1
            refine last_store rfl rfl rfl (u2.setCell ⟨w.heap.size, i, none⟩ (.int .i64 y)) (by go_simp <;> rfl) ?_
            have HR3 : Hid (RowZs w.heap.size (u2.setCell ⟨w.heap.size, i, none⟩ (.int .i64 y)) (.slice (some ⟨w.heap.size, 0, none⟩) n n) L2) := by
              show RowZs _ _ _ _
              rw [← HNY.out]
              exact (HR2.out.heap T2).put i y
            have HV3 : Hid (Below w.heap.size w (u2.setCell ⟨w.heap.size, i, none⟩ (.int .i64 y))) := by
              subst hu1 hu2
              exact HV.out.drew.setCell (Nat.le_refl _) _
            generalize u2.setCell ⟨w.heap.size, i, none⟩ (.int .i64 y) = V at HR3 HV3 ⊢
            clear hu1 hu2 T1 T2 hc2 hf2 HC HR2 HNY HV
            go_wp2
            go_roundw
            case rel => exact ⟨t + 1, by go_num, htl, by rw [← HL2.out]; exact HR3, HV3⟩
            case measure => simp [intOf]; omega
          · have htl' : ¬ (t : Int) < (lb : Int) := by omega
            obtain rfl : lb = t := by omega
            have HPL2 : Hid ((addSh p k (l.getD k 0) (m.take lb)).length = n) := by show _ = _; rw [addSh_len, HPL.out]
            go_wp2
            go_roundw
            case rel => exact ⟨k + 1, _, by go_num, hlt, HPL2, HQ2, HR, HV⟩
            case measure => simp [intOf]; omega
      · have hlt' : ¬ (k : Int) < (la : Int) := by omega
        obtain rfl : la = k := by omega
        have CT : Hid (Calls Try.prog 143 #[.slice (some ⟨w.heap.size, 0, none⟩) n n] wr fun e w' => ∃ x, e = .returned x ∧ ZOwn wr.heap.size w'.heap.size w' x (qMul l m) ∧ Below wr.heap.size wr w') := by
          refine (sTrim_any _ p (by rw [HPL.out]; omega) wr (ZOwn.of HR.out).at).mono ?_
          rintro e w' ⟨x, h2, h3, h4⟩
          refine ⟨x, h2, ?_, h4⟩
          have h5 := HQ.out
          rw [HD0.out] at h5
          rw [← h5]
          exact h3
        clear HQ HR
        go_wp2_with (go_at_call 143; refine CT.out.mono ?_; rintro e w3 ⟨x, rfl, hx, hb3⟩)
        go_ret
        exact ⟨_, rfl, hx.wide HW.out.size (Nat.le_refl _), HW.out.trans (hb3.mono HW.out.size)⟩

end Go.Proofs.Ytbkfdafdchjakab
