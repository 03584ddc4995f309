/-
  The division of polynomials, as lists: no program in here.
-/
import Derived.Test.YtfiflcedbejamaaPolyThr
namespace Go.Proofs.Ytfiflcedbejamaa

/-- i numbers of the quotient are left to make; d has d.length - 1 = t numbers below its last; c: what makes 1 of its last. -/
def dvK (t : Nat) (c : Int) (p : List Int) (i : Nat) : Int := scMul (p.getD (i + t) 0) c
def dv (d : List Int) (t : Nat) (c : Int) : Nat → List Int → List Int × List Int
  | 0, p => ([], p)
  | i + 1, p => ((dv d t c i (addSh p i (scNeg (dvK t c p i)) d)).1 ++ [dvK t c p i], (dv d t c i (addSh p i (scNeg (dvK t c p i)) d)).2)
theorem dv_len1 (d : List Int) (t : Nat) (c : Int) : ∀ (i : Nat) (p : List Int), (dv d t c i p).1.length = i
  | 0, _ => rfl
  | i + 1, p => by
    show (_ ++ [_]).length = _
    rw [List.length_append, dv_len1 d t c i]
    rfl
theorem dv_len2 (d : List Int) (t : Nat) (c : Int) : ∀ (i : Nat) (p : List Int), (dv d t c i p).2.length = p.length
  | 0, _ => rfl
  | i + 1, p => by
    show (dv d t c i _).2.length = _
    rw [dv_len2 d t c i, addSh_len]
theorem dv_sc1 (d : List Int) (t : Nat) (c : Int) : ∀ (i : Nat) (p : List Int) (j : Nat), Sc ((dv d t c i p).1.getD j 0)
  | 0, _, j => by show Sc (([] : List Int).getD j 0); rw [getD_nil]; exact sc_zero
  | i + 1, p, j => by
    show Sc ((_ ++ [_]).getD j 0)
    rcases Nat.lt_trichotomy j i with h | h | h
    · rw [List.getD_eq_getElem?_getD, List.getElem?_append_left (by rw [dv_len1]; exact h), ← List.getD_eq_getElem?_getD]
      exact dv_sc1 d t c i _ j
    · subst h
      rw [List.getD_eq_getElem?_getD, List.getElem?_append_right (by rw [dv_len1]; omega), dv_len1]
      simp
      exact sc_mul _ _
    · rw [getD_out (by rw [List.length_append, dv_len1]; simp; omega)]
      exact sc_zero
theorem dv_sc2 (d : List Int) (t : Nat) (c : Int) (ht : d.length = t + 1) : ∀ (i : Nat) (p : List Int), i + t ≤ p.length → (∀ j, Sc (p.getD j 0)) → ∀ j, Sc ((dv d t c i p).2.getD j 0)
  | 0, _, _, h, j => h j
  | i + 1, p, hp, h, j => dv_sc2 d t c ht i _ (by rw [addSh_len]; omega) (addSh_sc i _ (by omega) h) j
theorem ev_app (x : Int) : ∀ (l : List Int) (k : Int), ev (l ++ [k]) x = ev l x + x ^ l.length * k
  | [], k => by show k + x * 0 = 0 + x ^ 0 * k; simp
  | a :: t, k => by
    show a + x * ev (t ++ [k]) x = a + x * ev t x + x ^ (t.length + 1) * k
    rw [ev_app x t k, Int.pow_succ]
    grind
/-- What is divided is made up again. -/
theorem dv_ev (x : Int) (d : List Int) (t : Nat) (c : Int) (ht : d.length = t + 1) : ∀ (i : Nat) (p : List Int), i + t ≤ p.length → Dp (ev p x - (ev (dv d t c i p).1 x * ev d x + ev (dv d t c i p).2 x))
  | 0, p, _ => dp_zero.of (by show ev p x - (0 * ev d x + ev p x) = 0; grind)
  | i + 1, p, hp => by
    have h1 := dv_ev x d t c ht i (addSh p i (scNeg (dvK t c p i)) d) (by rw [addSh_len]; omega)
    have h2 := addSh_ev x p i (scNeg (dvK t c p i)) d (by omega)
    have h3 := dp_scNeg (dvK t c p i)
    show Dp (ev p x - (ev ((dv d t c i (addSh p i (scNeg (dvK t c p i)) d)).1 ++ [dvK t c p i]) x * ev d x + ev (dv d t c i (addSh p i (scNeg (dvK t c p i)) d)).2 x))
    have h4 := ev_app x (dv d t c i (addSh p i (scNeg (dvK t c p i)) d)).1 (dvK t c p i)
    rw [dv_len1] at h4
    rw [h4]
    generalize ev (dv d t c i (addSh p i (scNeg (dvK t c p i)) d)).1 x = Q at *
    generalize ev (dv d t c i (addSh p i (scNeg (dvK t c p i)) d)).2 x = R at *
    generalize ev (addSh p i (scNeg (dvK t c p i)) d) x = P' at *
    generalize scNeg (dvK t c p i) = N at *
    generalize dvK t c p i = K at *
    exact ((h1.sub h2).sub ((h3.mul (x ^ i)).mul (ev d x))).of (by grind)
/-- What is left is shorter. -/
theorem dv_low (d : List Int) (t : Nat) (c : Int) (ht : d.length = t + 1) (hc : Dp (c * d.getD t 0 - 1)) : ∀ (i : Nat) (p : List Int), i + t ≤ p.length → (∀ j, Sc (p.getD j 0)) → (∀ j, i + t ≤ j → p.getD j 0 = 0) → ∀ j, t ≤ j → (dv d t c i p).2.getD j 0 = 0
  | 0, p, _, _, h, j, hj => h j (by omega)
  | i + 1, p, hp, hs, h, j, hj => by
    refine dv_low d t c ht hc i (addSh p i (scNeg (dvK t c p i)) d) (by rw [addSh_len]; omega) (addSh_sc i _ (by omega) hs) (fun j hj => ?_) j hj
    by_cases e : j = i + t
    · subst e
      have h1 := addSh_sc i (scNeg (dvK t c p i)) (b := d) (p := p) (by omega) hs (i + t)
      refine dp_small (?_ : Dp _) h1 sc_zero
      rw [addSh_at _ _ _ _ (by omega)]
      unfold shF
      rw [if_pos (by omega), show i + t - i = t by omega]
      have h2 := dp_scAdd (p.getD (i + t) 0) (scMul (scNeg (dvK t c p i)) (d.getD t 0))
      have h3 := dp_scMul (scNeg (dvK t c p i)) (d.getD t 0)
      have h4 := dp_scNeg (dvK t c p i)
      have h5 : Dp (dvK t c p i - p.getD (i + t) 0 * c) := dp_scMul _ _
      generalize dvK t c p i = K at *
      generalize scAdd (p.getD (i + t) 0) (scMul (scNeg K) (d.getD t 0)) = A at *
      generalize scMul (scNeg K) (d.getD t 0) = M at *
      generalize scNeg K = N at *
      generalize p.getD (i + t) 0 = Y at *
      generalize d.getD t 0 = D at *
      exact ((((h2.add h3).add (h4.mul D)).sub (h5.mul D)).sub (hc.mul Y)).of (by grind)
    · rw [addSh_at _ _ _ _ (by omega)]
      unfold shF
      rw [if_neg (by omega), h j (by omega)]

/-- The last number of a list, and what makes 1 of it. -/
def dvC (d : List Int) : Int := scInv (d.getD (d.length - 1) 0)
def dvN (l d : List Int) : Nat := l.length - (d.length - 1)
def pQuo (a b : List Int) : List Int := if 64 < a.length ∨ 64 < b.length ∨ (pTrim b).length = 0 ∨ (pTrim a).length < (pTrim b).length then [] else (dv (pTrim b) ((pTrim b).length - 1) (dvC (pTrim b)) (dvN (pTrim a) (pTrim b)) (pTrim a)).1
def pRem (a b : List Int) : List Int := if 64 < a.length ∨ 64 < b.length then [] else if (pTrim b).length = 0 ∨ (pTrim a).length < (pTrim b).length then pTrim a else trimZ (dv (pTrim b) ((pTrim b).length - 1) (dvC (pTrim b)) (dvN (pTrim a) (pTrim b)) (pTrim a)).2
theorem pQuo_64 (a b : List Int) : (pQuo a b).length ≤ 64 := by
  unfold pQuo
  split
  · exact Nat.zero_le _
  · rw [dv_len1]
    unfold dvN
    have := pTrim_len a
    omega
theorem pRem_64 (a b : List Int) : (pRem a b).length ≤ 64 := by
  unfold pRem
  split
  · exact Nat.zero_le _
  · have h0 := pTrim_len a
    split
    · omega
    · have h1 := trimZ_len (dv (pTrim b) ((pTrim b).length - 1) (dvC (pTrim b)) (dvN (pTrim a) (pTrim b)) (pTrim a)).2
      rw [dv_len2] at h1
      omega
theorem pQuo_len (a b : List Int) : (pQuo a b).length ≤ 1048576 := Nat.le_trans (pQuo_64 a b) (by decide)
theorem pRem_len (a b : List Int) : (pRem a b).length ≤ 1048576 := Nat.le_trans (pRem_64 a b) (by decide)
theorem Can.last {l : List Int} (h : Can l) (h0 : 0 < l.length) : ¬ Dp (l.getD (l.length - 1) 0) := fun hd => trim_last h.2 h0 (dp_small (b := 0) (hd.of (by omega)) (h.1 _) sc_zero)
/-- The quotient has no 0 at its end. -/
theorem dv_can (p d : List Int) (hp : Can p) (hd : Can d) (h0 : 0 < d.length) (h1 : d.length ≤ p.length) : Can (dv d (d.length - 1) (dvC d) (dvN p d) p).1 := by
  refine ⟨dv_sc1 _ _ _ _ _, ?_⟩
  obtain ⟨i, hi⟩ : ∃ i, dvN p d = i + 1 := ⟨p.length - d.length, by unfold dvN; omega⟩
  rw [hi]
  show trimZ (_ ++ [_]) = _ ++ [_]
  refine trimZ_some _ ?_
  intro e
  have hlast := hp.last (by omega)
  have hi2 : i + (d.length - 1) = p.length - 1 := by unfold dvN at hi; omega
  unfold dvK at e
  rw [hi2] at e
  have h2 := dp_scMul (p.getD (p.length - 1) 0) (dvC d)
  rw [e] at h2
  have h3 := dp_inv (hd.last h0)
  refine hlast ((((h2.mul (d.getD (d.length - 1) 0)).add (h3.mul (p.getD (p.length - 1) 0))).neg).of ?_)
  show _ = -((0 - p.getD (p.length - 1) 0 * scInv (d.getD (d.length - 1) 0)) * d.getD (d.length - 1) 0 + (d.getD (d.length - 1) 0 * scInv (d.getD (d.length - 1) 0) - 1) * p.getD (p.length - 1) 0)
  grind
theorem pQuo_can (a b : List Int) : Can (pQuo a b) := by
  unfold pQuo
  split
  · exact ⟨fun j => by rw [getD_nil]; exact sc_zero, rfl⟩
  · exact dv_can _ _ (pTrim_can _) (pTrim_can _) (by omega) (by omega)
theorem pRem_can (a b : List Int) : Can (pRem a b) := by
  unfold pRem
  split
  · exact ⟨fun j => by rw [getD_nil]; exact sc_zero, rfl⟩
  · split
    · exact pTrim_can _
    · refine Can.of_trim _ (dv_sc2 _ _ _ ?_ _ _ ?_ (pTrim_can a).1)
      · omega
      · unfold dvN; omega
/-- What is left is shorter than what it is divided by. -/
theorem pRem_lt (a b : List Int) (ha : a.length ≤ 64) (hb : b.length ≤ 64) (h0 : 0 < (pTrim b).length) : (pRem a b).length < (pTrim b).length := by
  unfold pRem
  rw [if_neg (by omega)]
  split
  · omega
  · have h1 := dp_inv ((pTrim_can b).last h0)
    have h2 := trim_len_lt (l := (dv (pTrim b) ((pTrim b).length - 1) (dvC (pTrim b)) (dvN (pTrim a) (pTrim b)) (pTrim a)).2) (n := (pTrim b).length - 1) (dv_low _ _ _ (by omega) (h1.of (by unfold dvC; rw [Int.mul_comm])) _ _ (by unfold dvN; omega) (pTrim_can a).1 (fun j hj => getD_out (by unfold dvN at hj; omega)))
    omega
theorem can_nil : Can [] := ⟨fun j => by rw [getD_nil]; exact sc_zero, rfl⟩
/-- It is made up again. -/
theorem div_back (a b : List Int) (ha : a.length ≤ 64) (hb : b.length ≤ 64) : pAdd (pMul (pQuo a b) (pTrim b)) (pRem a b) = pTrim a := by
  have hlb := pTrim_len b
  have hla := pTrim_len a
  have hm := pMul_128 (pQuo a b) (pTrim b)
  have hr := pRem_64 a b
  have had := pAdd_len (pMul (pQuo a b) (pTrim b)) (pRem a b)
  refine made_out (pAdd_can _ _) (pTrim_can a) 200 (by decide) (by omega) (by omega) fun i _ => ?_
  generalize ((1 + i : Nat) : Int) = x
  have h1 := pAdd_ev x (pMul (pQuo a b) (pTrim b)) (pRem a b)
  have h2 := pMul_ev x (pQuo a b) (pTrim b) (pQuo_64 a b) (by omega)
  have h3 : Dp (ev (pTrim a) x - (ev (pQuo a b) x * ev (pTrim b) x + ev (pRem a b) x)) := by
    unfold pQuo pRem
    rw [if_neg (c := 64 < a.length ∨ 64 < b.length) (by omega)]
    by_cases h : (pTrim b).length = 0 ∨ (pTrim a).length < (pTrim b).length
    · rw [if_pos h, if_pos (Or.inr (Or.inr h))]
      exact dp_zero.of (by show ev (pTrim a) x - (0 * ev (pTrim b) x + ev (pTrim a) x) = 0; grind)
    · rw [if_neg h, if_neg (by omega)]
      have h4 := dv_ev x (pTrim b) ((pTrim b).length - 1) (dvC (pTrim b)) (by omega) (dvN (pTrim a) (pTrim b)) (pTrim a) (by unfold dvN; omega)
      have h5 := trimZ_ev x (dv (pTrim b) ((pTrim b).length - 1) (dvC (pTrim b)) (dvN (pTrim a) (pTrim b)) (pTrim a)).2
      exact (h4.sub h5).of (by omega)
  exact ((h1.add h2).sub h3).of (by omega)
/-- In the other's words: a number less. -/
theorem shift_neg (k y : Int) : scMul (scNeg k) y = scNeg (scMul k y) := by
  rw [scMul_eq, scNeg_eq, scNeg_eq, scMul_eq]
  exact sca_of_dp (((dp_sca (-k)).mul y).add (dp_sca (k * y)) |>.of (by grind))

end Go.Proofs.Ytfiflcedbejamaa
