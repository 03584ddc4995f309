/-
  Texts of one's own, joined.
-/
import Derived.Test.YthnahalboomkoaaGreatScPure

/-
  Polynomials as the document tells of them: no program in here.
-/
namespace Go.Proofs.YthnahalboomkoaaGreat

/-- Without 0 at its end. -/
def trimZ (l : List Int) : List Int := (l.reverse.dropWhile fun x => x == 0).reverse
theorem trimZ_nil : trimZ [] = [] := rfl
theorem trimZ_zero (l : List Int) : trimZ (l ++ [0]) = trimZ l := by
  unfold trimZ
  rw [List.reverse_append]
  rfl
theorem trimZ_some (l : List Int) {x : Int} (h : x ≠ 0) : trimZ (l ++ [x]) = l ++ [x] := by
  unfold trimZ
  rw [List.reverse_append]
  have e : (x == 0) = false := by rw [beq_eq_false_iff_ne]; exact h
  show (List.dropWhile (fun x => x == 0) (x :: l.reverse)).reverse = _
  rw [List.dropWhile_cons, e]
  simp
theorem trimZ_len (l : List Int) : (trimZ l).length ≤ l.length := by
  unfold trimZ
  have := (List.dropWhile_sublist (l := l.reverse) (fun x => x == 0)).length_le
  simpa using this
/-- Each as a scalar, without 0 at its end. -/
def pTrim (l : List Int) : List Int := trimZ (l.map sca)
theorem pTrim_len (l : List Int) : (pTrim l).length ≤ l.length := by
  have := trimZ_len (l.map sca)
  unfold pTrim
  simpa using this
/-- What it is at a place. -/
def pAt : List Int → Int → Int
  | [], _ => 0
  | a :: t, x => scAdd (scMul (pAt t x) x) a

/-- Place by place. -/
def padF (a b : List Int) (j : Nat) : Int := if j < b.length then scAdd (if j < a.length then scAdd 0 (a.getD j 0) else 0) (b.getD j 0) else if j < a.length then scAdd 0 (a.getD j 0) else 0
def qAdd (a b : List Int) : List Int := pTrim ((List.range (max a.length b.length)).map (padF a b))
theorem qAdd_len (a b : List Int) : (qAdd a b).length ≤ max a.length b.length := by
  have := pTrim_len ((List.range (max a.length b.length)).map (padF a b))
  unfold qAdd
  simpa using this

end Go.Proofs.YthnahalboomkoaaGreat

/-
  Polynomials modulo 1009: their values, and that these make them out.
-/
namespace Go.Proofs.YthnahalboomkoaaGreat

/-- A multiple of 1009. -/
def Dp (a : Int) : Prop := (1009 : Int) ∣ a
theorem Dp.of {a b : Int} (h : Dp a) (e : b = a) : Dp b := by rw [e]; exact h
theorem dp_zero : Dp 0 := Int.dvd_zero _
theorem Dp.add {a b : Int} (h : Dp a) (h' : Dp b) : Dp (a + b) := Int.dvd_add h h'
theorem Dp.sub {a b : Int} (h : Dp a) (h' : Dp b) : Dp (a - b) := Int.dvd_sub h h'
theorem Dp.neg {a : Int} (h : Dp a) : Dp (-a) := (dp_zero.sub h).of (by omega)
theorem Dp.mul {a : Int} (h : Dp a) (c : Int) : Dp (a * c) := Int.dvd_mul_of_dvd_left h
theorem dp_sca (a : Int) : Dp (sca a - a) := by unfold Dp sca; omega
theorem sca_of_dp {a b : Int} (h : Dp (a - b)) : sca a = sca b := by unfold sca; unfold Dp at h; omega
theorem dp_of_sca {a b : Int} (h : sca a = sca b) : Dp (a - b) := by unfold sca at h; unfold Dp; omega
theorem dp_small {a b : Int} (h : Dp (a - b)) (h0 : 0 ≤ a ∧ a < 1009) (h1 : 0 ≤ b ∧ b < 1009) : a = b := by unfold Dp at h; omega
theorem dp_scAdd (a b : Int) : Dp (scAdd a b - (a + b)) := by rw [scAdd_eq]; exact dp_sca _
theorem dp_scMul (a b : Int) : Dp (scMul a b - a * b) := by rw [scMul_eq]; exact dp_sca _
theorem dp_scNeg (a : Int) : Dp (scNeg a - -a) := by rw [scNeg_eq]; exact dp_sca _
def Sc (a : Int) : Prop := 0 ≤ a ∧ a < 1009
theorem sc_sca (a : Int) : Sc (sca a) := ⟨sca_nonneg a, sca_lt a⟩
theorem sc_add (a b : Int) : Sc (scAdd a b) := sc_sca _
theorem sc_mul (a b : Int) : Sc (scMul a b) := sc_sca _
theorem sc_neg (a : Int) : Sc (scNeg a) := sc_sca _
theorem sc_zero : Sc 0 := ⟨by decide, by decide⟩

/-- The value, unbounded. -/
def ev : List Int → Int → Int
  | [], _ => 0
  | a :: t, x => a + x * ev t x
theorem pAt_ev (x : Int) : ∀ l : List Int, pAt l x = sca (ev l x)
  | [] => rfl
  | a :: t => by
    show scAdd (scMul (pAt t x) x) a = sca (a + x * ev t x)
    rw [pAt_ev x t, scAdd_eq, scMul_eq, sca_mul_left, sca_add_left]
    congr 1
    grind
theorem getD_out {l : List Int} {j : Nat} (h : l.length ≤ j) : l.getD j 0 = 0 := by simp [List.getD_eq_getElem?_getD, List.getElem?_eq_none h]
theorem getD_inZ {l : List Int} {j : Nat} (h : j < l.length) : l.getD j 0 = l[j] := by simp [h]
theorem getD_nil (j : Nat) : ([] : List Int).getD j 0 = 0 := by simp
theorem ev_zero (x : Int) : ∀ l : List Int, (∀ j, Dp (l.getD j 0)) → Dp (ev l x)
  | [], _ => dp_zero
  | a :: t, h => by
    have h0 : Dp a := h 0
    have h1 := ev_zero x t fun j => h (j + 1)
    exact (h0.add (h1.mul x)).of (by show a + x * ev t x = _; grind)
theorem ev_congr (x : Int) : ∀ a b : List Int, (∀ j, Dp (a.getD j 0 - b.getD j 0)) → Dp (ev a x - ev b x)
  | [], b, h => (ev_zero x b fun j => (h j).neg.of (by simp)).neg.of (by show 0 - _ = _; omega)
  | a :: t, [], h => (ev_zero x (a :: t) fun j => (h j).of (by simp)).of (by show _ - 0 = _; omega)
  | a :: t, b :: s, h => by
    have h0 : Dp (a - b) := h 0
    have h1 := ev_congr x t s fun j => h (j + 1)
    exact (h0.add (h1.mul x)).of (by show a + x * ev t x - (b + x * ev s x) = _; grind)

/-- Place by place, unbounded. -/
def addL : List Int → List Int → List Int
  | [], b => b
  | a :: t, [] => a :: t
  | a :: t, b :: s => (a + b) :: addL t s
theorem ev_addL (x : Int) : ∀ a b : List Int, ev (addL a b) x = ev a x + ev b x
  | [], b => by show ev b x = 0 + ev b x; omega
  | a :: t, [] => by show ev (a :: t) x = ev (a :: t) x + 0; omega
  | a :: t, b :: s => by
    show (a + b) + x * ev (addL t s) x = (a + x * ev t x) + (b + x * ev s x)
    rw [ev_addL x t s]
    grind
theorem addL_getD : ∀ (a b : List Int) (j : Nat), (addL a b).getD j 0 = a.getD j 0 + b.getD j 0
  | [], b, j => by rw [getD_nil]; show b.getD j 0 = _; omega
  | a :: t, [], j => by rw [getD_nil]; show (a :: t).getD j 0 = _; omega
  | a :: t, b :: s, 0 => rfl
  | a :: t, b :: s, j + 1 => addL_getD t s j
theorem ev_map (x k : Int) : ∀ l : List Int, ev (l.map fun y => k * y) x = k * ev l x
  | [] => by simp [ev]
  | a :: t => by
    show k * a + x * ev (t.map fun y => k * y) x = k * (a + x * ev t x)
    rw [ev_map x k t]
    grind
theorem ev_shift (x : Int) (l : List Int) : ∀ s : Nat, ev (List.replicate s 0 ++ l) x = x ^ s * ev l x
  | 0 => by simp
  | s + 1 => by
    show 0 + x * ev (List.replicate s 0 ++ l) x = _
    rw [ev_shift x l s, Int.pow_succ]
    grind
theorem shift_getD (l : List Int) : ∀ (s j : Nat), (List.replicate s 0 ++ l).getD j 0 = if s ≤ j then l.getD (j - s) 0 else 0
  | 0, j => by simp
  | s + 1, 0 => by simp [List.replicate_succ]
  | s + 1, j + 1 => by
    show (List.replicate s 0 ++ l).getD j 0 = _
    rw [shift_getD l s j]
    have e : (s + 1 ≤ j + 1) = (s ≤ j) := by simp
    have e2 : j + 1 - (s + 1) = j - s := by omega
    rw [e2]
    simp

/-- Without 0 at its end: at no place another. -/
theorem list_end {l : List Int} (h : 0 < l.length) : ∃ t x, l = t ++ [x] := ⟨l.dropLast, l.getLast (by intro e; rw [e] at h; simp at h), (List.dropLast_concat_getLast _).symm⟩
theorem getD_zero_end (l : List Int) (j : Nat) : (l ++ [0]).getD j 0 = l.getD j 0 := by
  rcases Nat.lt_trichotomy j l.length with h | h | h
  · rw [List.getD_eq_getElem?_getD, List.getD_eq_getElem?_getD, List.getElem?_append_left h]
  · subst h; simp
  · rw [getD_out (by simp; omega), getD_out (by omega)]
theorem trimZ_getD (j : Nat) : ∀ (n : Nat) (l : List Int), l.length ≤ n → (trimZ l).getD j 0 = l.getD j 0
  | 0, l, h => by rw [List.length_eq_zero_iff.1 (show l.length = 0 by omega)]; rfl
  | n + 1, l, h => by
    by_cases h0 : 0 < l.length
    · obtain ⟨t, x, rfl⟩ := list_end h0
      by_cases hx : x = 0
      · subst hx
        rw [trimZ_zero, getD_zero_end]
        exact trimZ_getD j n t (by simp at h; omega)
      · rw [trimZ_some _ hx]
    · rw [List.length_eq_zero_iff.1 (show l.length = 0 by omega)]; rfl
theorem trimZ_at (l : List Int) (j : Nat) : (trimZ l).getD j 0 = l.getD j 0 := trimZ_getD j l.length l (Nat.le_refl _)
theorem trimZ_trim : ∀ (n : Nat) (l : List Int), l.length ≤ n → trimZ (trimZ l) = trimZ l
  | 0, l, h => by rw [List.length_eq_zero_iff.1 (show l.length = 0 by omega)]; rfl
  | n + 1, l, h => by
    by_cases h0 : 0 < l.length
    · obtain ⟨t, x, rfl⟩ := list_end h0
      by_cases hx : x = 0
      · subst hx
        rw [trimZ_zero]
        exact trimZ_trim n t (by simp at h; omega)
      · rw [trimZ_some _ hx, trimZ_some _ hx]
    · rw [List.length_eq_zero_iff.1 (show l.length = 0 by omega)]; rfl
/-- Scalars, none of them 0 at the end. -/
def Can (l : List Int) : Prop := (∀ j, Sc (l.getD j 0)) ∧ trimZ l = l
theorem Can.of_trim (l : List Int) (h : ∀ j, Sc (l.getD j 0)) : Can (trimZ l) := ⟨fun j => by rw [trimZ_at]; exact h j, trimZ_trim l.length l (Nat.le_refl _)⟩
theorem map_sca_at (l : List Int) (j : Nat) : (l.map sca).getD j 0 = sca (l.getD j 0) := by
  by_cases h : j < l.length
  · simp [h]
  · rw [getD_out (by simp; omega), getD_out (by omega)]; rfl
theorem pTrim_can (l : List Int) : Can (pTrim l) := Can.of_trim _ fun j => by rw [map_sca_at]; exact sc_sca _
theorem pTrim_at (l : List Int) (j : Nat) : (pTrim l).getD j 0 = sca (l.getD j 0) := by unfold pTrim; rw [trimZ_at, map_sca_at]
theorem trim_last {l : List Int} (h : trimZ l = l) (h0 : 0 < l.length) : l.getD (l.length - 1) 0 ≠ 0 := by
  obtain ⟨t, x, rfl⟩ := list_end h0
  intro e
  have hx : x = 0 := by simpa using e
  subst hx
  have h1 := trimZ_len t
  rw [trimZ_zero] at h
  have := congrArg List.length h
  simp at this
  omega
theorem trim_len_lt {l : List Int} {n : Nat} (h : ∀ j, n ≤ j → l.getD j 0 = 0) : (trimZ l).length ≤ n := by
  rcases Nat.lt_or_ge n (trimZ l).length with hl | hl
  · exact absurd ((trimZ_at l _).trans (h _ (by omega))) (trim_last (trimZ_trim l.length l (Nat.le_refl _)) (by omega))
  · exact hl
theorem Can.len_le {l : List Int} (h : Can l) {n : Nat} (h' : ∀ j, n ≤ j → l.getD j 0 = 0) : l.length ≤ n := by
  have := trim_len_lt h'
  rwa [h.2] at this
theorem can_eq {a b : List Int} (ha : Can a) (hb : Can b) (h : ∀ j, Dp (a.getD j 0 - b.getD j 0)) : a = b := by
  have h1 : ∀ j, a.getD j 0 = b.getD j 0 := fun j => dp_small (h j) (ha.1 j) (hb.1 j)
  have l1 : a.length ≤ b.length := ha.len_le fun j hj => by rw [h1, getD_out hj]
  have l2 : b.length ≤ a.length := hb.len_le fun j hj => by rw [← h1, getD_out hj]
  refine List.ext_getElem (by omega) fun j p q => ?_
  have := h1 j
  rwa [getD_inZ p, getD_inZ q] at this
theorem trim_self {l : List Int} (h : Can l) : pTrim l = l := by
  refine can_eq (pTrim_can l) h fun j => ?_
  rw [pTrim_at]
  exact dp_sca _

/-- Divided by the place c. -/
def syn (c : Int) : List Int → List Int
  | [] => []
  | _ :: t => ev t c :: syn c t
theorem syn_ev (c x : Int) : ∀ l : List Int, (x - c) * ev (syn c l) x = ev l x - ev l c
  | [] => by simp [ev, syn]
  | a :: t => by
    show (x - c) * (ev t c + x * ev (syn c t) x) = (a + x * ev t x) - (a + c * ev t c)
    have h := syn_ev c x t
    have h2 : (x - c) * (ev t c + x * ev (syn c t) x) = (x - c) * ev t c + x * ((x - c) * ev (syn c t) x) := by grind
    rw [h2, h]
    grind
theorem syn_at (c : Int) : ∀ (l : List Int) (j : Nat), (syn c l).getD j 0 = ev (l.drop (j + 1)) c
  | [], j => by simp [syn, ev]
  | _ :: t, 0 => by simp [syn]
  | _ :: t, j + 1 => by
    show (syn c t).getD j 0 = ev (t.drop (j + 1)) c
    exact syn_at c t j
theorem drop_ev (c : Int) : ∀ (l : List Int) (j : Nat), ev (l.drop j) c = l.getD j 0 + c * ev (l.drop (j + 1)) c
  | [], j => by simp [ev]
  | a :: t, 0 => by simp [ev]
  | a :: t, j + 1 => by
    show ev (t.drop j) c = t.getD j 0 + c * ev (t.drop (j + 1)) c
    exact drop_ev c t j
theorem getD_drop0 (l : List Int) (i j : Nat) : (l.drop i).getD j 0 = l.getD (i + j) 0 := by
  simp [List.getD_eq_getElem?_getD, List.getElem?_drop]

/-- 1009 is prime. -/
theorem dp_prime {d : Nat} {a : Int} (h0 : 0 < d) (h1 : d < 1009) (h : Dp ((d : Int) * a)) : Dp a := by
  have h2 : (1009 : Nat) ∣ d * a.natAbs := by
    have := Int.natAbs_dvd_natAbs.2 h
    rwa [Int.natAbs_mul, Int.natAbs_natCast] at this
  have hc : Nat.Coprime 1009 d := by
    have h3 : scMul (d : Int) (scInv (d : Int)) = 1 := scMul_inv (by omega) (by omega)
    rw [scMul_eq] at h3
    unfold sca at h3
    have hg : ((Nat.gcd 1009 d : Nat) : Int) ∣ 1 := by
      have e1 : ((Nat.gcd 1009 d : Nat) : Int) ∣ (1009 : Int) := Int.natCast_dvd_natCast.2 (Nat.gcd_dvd_left 1009 d)
      have e2 : ((Nat.gcd 1009 d : Nat) : Int) ∣ (d : Int) := Int.natCast_dvd_natCast.2 (Nat.gcd_dvd_right 1009 d)
      have e3 : (1 : Int) = (d : Int) * scInv d - 1009 * ((d : Int) * scInv d / 1009) := by omega
      rw [e3]
      exact Int.dvd_sub (Int.dvd_mul_of_dvd_left e2) (Int.dvd_mul_of_dvd_left e1)
    have := Int.natCast_dvd_natCast.1 (show ((Nat.gcd 1009 d : Nat) : Int) ∣ ((1 : Nat) : Int) from hg)
    exact Nat.dvd_one.1 this
  have h4 : (1009 : Nat) ∣ a.natAbs := hc.dvd_of_dvd_mul_left h2
  exact Int.natAbs_dvd_natAbs.1 h4

/-- As many places as numbers at which it is 0: it is 0. -/
theorem roots (n : Nat) : ∀ (s : Nat) (l : List Int), n ≤ 1000 → (∀ j, n ≤ j → Dp (l.getD j 0)) → (∀ i, i < n → Dp (ev l ((s + i : Nat) : Int))) → ∀ j, Dp (l.getD j 0) := by
  induction n with
  | zero => exact fun s l _ h _ j => h j (Nat.zero_le _)
  | succ n ih =>
    intro s l hn h hr
    have hc : Dp (ev l ((s : Nat) : Int)) := hr 0 (by omega)
    have hq : ∀ j, Dp ((syn (s : Int) l).getD j 0) := by
      refine ih (s + 1) (syn (s : Int) l) (by omega) ?_ ?_
      · intro j hj
        rw [syn_at]
        refine ev_zero _ _ fun i => ?_
        rw [getD_drop0]
        exact h _ (by omega)
      · intro i hi
        have h1 := syn_ev (s : Int) ((s + 1 + i : Nat) : Int) l
        have h2 := hr (i + 1) (by omega)
        have h3 : Dp (((s + 1 + i : Nat) : Int) - (s : Int)) → True := fun _ => trivial
        have e : s + (i + 1) = s + 1 + i := by omega
        rw [e] at h2
        refine dp_prime (d := i + 1) (by omega) (by omega) ((h2.sub hc).of ?_)
        rw [← h1]
        congr 1
        omega
    intro j
    have h1 := drop_ev (s : Int) l j
    have h2 := hq j
    rw [syn_at] at h2
    have h3 : Dp (ev (l.drop j) (s : Int)) := by
      cases j with
      | zero => simpa using hc
      | succ j => have := hq j; rwa [syn_at] at this
    exact (h3.sub (h2.mul (s : Int))).of (by rw [h1]; grind)

theorem mk_neg_at (b : List Int) (j : Nat) : (b.map fun y => (-1) * y).getD j 0 = -(b.getD j 0) := by
  by_cases h : j < b.length
  · simp [h]
  · rw [getD_out (by simp; omega), getD_out (by omega)]; rfl
/-- A list of scalars is made out by its values. -/
theorem made_out {a b : List Int} (ha : Can a) (hb : Can b) (n : Nat) (hn : n ≤ 1000) (la : a.length ≤ n) (lb : b.length ≤ n) (h : ∀ i, i < n → Dp (ev a ((1 + i : Nat) : Int) - ev b ((1 + i : Nat) : Int))) : a = b := by
  refine can_eq ha hb fun j => ?_
  have h1 := roots n 1 (addL a (b.map fun y => (-1) * y)) hn ?_ ?_ j
  · rw [addL_getD, mk_neg_at] at h1
    exact h1.of (by omega)
  · intro j hj
    rw [addL_getD, mk_neg_at, getD_out (by omega), getD_out (by omega)]
    exact dp_zero
  · intro i hi
    rw [ev_addL, ev_map]
    exact (h i hi).of (by omega)

end Go.Proofs.YthnahalboomkoaaGreat
