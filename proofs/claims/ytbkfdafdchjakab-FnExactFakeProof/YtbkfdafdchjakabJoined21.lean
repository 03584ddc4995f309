/-
  Texts of one's own, joined.
-/
import Derived.Test.YtbkfdafdchjakabJoined16

/-
  The division of polynomials, as lists: no program in here.
-/
namespace Go.Proofs.Ytbkfdafdchjakab

/-- i numbers of the quotient are left to make; d has d.length - 1 = t numbers below its last; c: what makes 1 of its last. -/
def dvK (t : Nat) (c : Int) (p : List Int) (i : Nat) : Int := scMul (p.getD (i + t) 0) c
def dv (d : List Int) (t : Nat) (c : Int) : Nat → List Int → List Int × List Int
  | 0, p => ([], p)
  | i + 1, p => ((dv d t c i (addSh p i (scNeg (dvK t c p i)) d)).1 ++ [dvK t c p i], (dv d t c i (addSh p i (scNeg (dvK t c p i)) d)).2)
theorem dv_len1 (d : List Int) (t : Nat) (c : Int) : ∀ (i : Nat) (p : List Int), (dv d t c i p).1.length = i
  | 0, _ => rfl
  | i + 1, p => by
    show (_ ++ [_]).length = _
    rw [List.length_append, dv_len1 d t c i]
    rfl
theorem dv_len2 (d : List Int) (t : Nat) (c : Int) : ∀ (i : Nat) (p : List Int), (dv d t c i p).2.length = p.length
  | 0, _ => rfl
  | i + 1, p => by
    show (dv d t c i _).2.length = _
    rw [dv_len2 d t c i, addSh_len]
theorem dv_sc1 (d : List Int) (t : Nat) (c : Int) : ∀ (i : Nat) (p : List Int) (j : Nat), Sc ((dv d t c i p).1.getD j 0)
  | 0, _, j => by show Sc (([] : List Int).getD j 0); rw [getD_nil]; exact sc_zero
  | i + 1, p, j => by
    show Sc ((_ ++ [_]).getD j 0)
    rcases Nat.lt_trichotomy j i with h | h | h
    · rw [List.getD_eq_getElem?_getD, List.getElem?_append_left (by rw [dv_len1]; exact h), ← List.getD_eq_getElem?_getD]
      exact dv_sc1 d t c i _ j
    · subst h
      rw [List.getD_eq_getElem?_getD, List.getElem?_append_right (by rw [dv_len1]; omega), dv_len1]
      simp
      exact sc_mul _ _
    · rw [getD_out (by rw [List.length_append, dv_len1]; simp; omega)]
      exact sc_zero
theorem dv_sc2 (d : List Int) (t : Nat) (c : Int) (ht : d.length = t + 1) : ∀ (i : Nat) (p : List Int), i + t ≤ p.length → (∀ j, Sc (p.getD j 0)) → ∀ j, Sc ((dv d t c i p).2.getD j 0)
  | 0, _, _, h, j => h j
  | i + 1, p, hp, h, j => dv_sc2 d t c ht i _ (by rw [addSh_len]; omega) (addSh_sc i _ (by omega) h) j
theorem ev_app (x : Int) : ∀ (l : List Int) (k : Int), ev (l ++ [k]) x = ev l x + x ^ l.length * k
  | [], k => by show k + x * 0 = 0 + x ^ 0 * k; simp
  | a :: t, k => by
    show a + x * ev (t ++ [k]) x = a + x * ev t x + x ^ (t.length + 1) * k
    rw [ev_app x t k, Int.pow_succ]
    grind
/-- What is divided is made up again. -/
theorem dv_ev (x : Int) (d : List Int) (t : Nat) (c : Int) (ht : d.length = t + 1) : ∀ (i : Nat) (p : List Int), i + t ≤ p.length → Dp (ev p x - (ev (dv d t c i p).1 x * ev d x + ev (dv d t c i p).2 x))
  | 0, p, _ => dp_zero.of (by show ev p x - (0 * ev d x + ev p x) = 0; grind)
  | i + 1, p, hp => by
    have h1 := dv_ev x d t c ht i (addSh p i (scNeg (dvK t c p i)) d) (by rw [addSh_len]; omega)
    have h2 := addSh_ev x p i (scNeg (dvK t c p i)) d (by omega)
    have h3 := dp_scNeg (dvK t c p i)
    show Dp (ev p x - (ev ((dv d t c i (addSh p i (scNeg (dvK t c p i)) d)).1 ++ [dvK t c p i]) x * ev d x + ev (dv d t c i (addSh p i (scNeg (dvK t c p i)) d)).2 x))
    have h4 := ev_app x (dv d t c i (addSh p i (scNeg (dvK t c p i)) d)).1 (dvK t c p i)
    rw [dv_len1] at h4
    rw [h4]
    generalize ev (dv d t c i (addSh p i (scNeg (dvK t c p i)) d)).1 x = Q at *
    generalize ev (dv d t c i (addSh p i (scNeg (dvK t c p i)) d)).2 x = R at *
    generalize ev (addSh p i (scNeg (dvK t c p i)) d) x = P' at *
    generalize scNeg (dvK t c p i) = N at *
    generalize dvK t c p i = K at *
    exact ((h1.sub h2).sub ((h3.mul (x ^ i)).mul (ev d x))).of (by grind)
/-- What is left is shorter. -/
theorem dv_low (d : List Int) (t : Nat) (c : Int) (ht : d.length = t + 1) (hc : Dp (c * d.getD t 0 - 1)) : ∀ (i : Nat) (p : List Int), i + t ≤ p.length → (∀ j, Sc (p.getD j 0)) → (∀ j, i + t ≤ j → p.getD j 0 = 0) → ∀ j, t ≤ j → (dv d t c i p).2.getD j 0 = 0
  | 0, p, _, _, h, j, hj => h j (by omega)
  | i + 1, p, hp, hs, h, j, hj => by
    refine dv_low d t c ht hc i (addSh p i (scNeg (dvK t c p i)) d) (by rw [addSh_len]; omega) (addSh_sc i _ (by omega) hs) (fun j hj => ?_) j hj
    by_cases e : j = i + t
    · subst e
      have h1 := addSh_sc i (scNeg (dvK t c p i)) (b := d) (p := p) (by omega) hs (i + t)
      refine dp_small (?_ : Dp _) h1 sc_zero
      rw [addSh_at _ _ _ _ (by omega)]
      unfold shF
      rw [if_pos (by omega), show i + t - i = t by omega]
      have h2 := dp_scAdd (p.getD (i + t) 0) (scMul (scNeg (dvK t c p i)) (d.getD t 0))
      have h3 := dp_scMul (scNeg (dvK t c p i)) (d.getD t 0)
      have h4 := dp_scNeg (dvK t c p i)
      have h5 : Dp (dvK t c p i - p.getD (i + t) 0 * c) := dp_scMul _ _
      generalize dvK t c p i = K at *
      generalize scAdd (p.getD (i + t) 0) (scMul (scNeg K) (d.getD t 0)) = A at *
      generalize scMul (scNeg K) (d.getD t 0) = M at *
      generalize scNeg K = N at *
      generalize p.getD (i + t) 0 = Y at *
      generalize d.getD t 0 = D at *
      exact ((((h2.add h3).add (h4.mul D)).sub (h5.mul D)).sub (hc.mul Y)).of (by grind)
    · rw [addSh_at _ _ _ _ (by omega)]
      unfold shF
      rw [if_neg (by omega), h j (by omega)]

/-- The last number of a list, and what makes 1 of it. -/
def dvC (d : List Int) : Int := scInv (d.getD (d.length - 1) 0)
def dvN (l d : List Int) : Nat := l.length - (d.length - 1)
def pQuo (a b : List Int) : List Int := if 64 < a.length ∨ 64 < b.length ∨ (pTrim b).length = 0 ∨ (pTrim a).length < (pTrim b).length then [] else (dv (pTrim b) ((pTrim b).length - 1) (dvC (pTrim b)) (dvN (pTrim a) (pTrim b)) (pTrim a)).1
def pRem (a b : List Int) : List Int := if 64 < a.length ∨ 64 < b.length then [] else if (pTrim b).length = 0 ∨ (pTrim a).length < (pTrim b).length then pTrim a else trimZ (dv (pTrim b) ((pTrim b).length - 1) (dvC (pTrim b)) (dvN (pTrim a) (pTrim b)) (pTrim a)).2
theorem pQuo_64 (a b : List Int) : (pQuo a b).length ≤ 64 := by
  unfold pQuo
  split
  · exact Nat.zero_le _
  · rw [dv_len1]
    unfold dvN
    have := pTrim_len a
    omega
theorem pRem_64 (a b : List Int) : (pRem a b).length ≤ 64 := by
  unfold pRem
  split
  · exact Nat.zero_le _
  · have h0 := pTrim_len a
    split
    · omega
    · have h1 := trimZ_len (dv (pTrim b) ((pTrim b).length - 1) (dvC (pTrim b)) (dvN (pTrim a) (pTrim b)) (pTrim a)).2
      rw [dv_len2] at h1
      omega
theorem pQuo_len (a b : List Int) : (pQuo a b).length ≤ 1048576 := Nat.le_trans (pQuo_64 a b) (by decide)
theorem pRem_len (a b : List Int) : (pRem a b).length ≤ 1048576 := Nat.le_trans (pRem_64 a b) (by decide)
theorem Can.last {l : List Int} (h : Can l) (h0 : 0 < l.length) : ¬ Dp (l.getD (l.length - 1) 0) := fun hd => trim_last h.2 h0 (dp_small (b := 0) (hd.of (by omega)) (h.1 _) sc_zero)
/-- The quotient has no 0 at its end. -/
theorem dv_can (p d : List Int) (hp : Can p) (hd : Can d) (h0 : 0 < d.length) (h1 : d.length ≤ p.length) : Can (dv d (d.length - 1) (dvC d) (dvN p d) p).1 := by
  refine ⟨dv_sc1 _ _ _ _ _, ?_⟩
  obtain ⟨i, hi⟩ : ∃ i, dvN p d = i + 1 := ⟨p.length - d.length, by unfold dvN; omega⟩
  rw [hi]
  show trimZ (_ ++ [_]) = _ ++ [_]
  refine trimZ_some _ ?_
  intro e
  have hlast := hp.last (by omega)
  have hi2 : i + (d.length - 1) = p.length - 1 := by unfold dvN at hi; omega
  unfold dvK at e
  rw [hi2] at e
  have h2 := dp_scMul (p.getD (p.length - 1) 0) (dvC d)
  rw [e] at h2
  have h3 := dp_inv (hd.last h0)
  refine hlast ((((h2.mul (d.getD (d.length - 1) 0)).add (h3.mul (p.getD (p.length - 1) 0))).neg).of ?_)
  show _ = -((0 - p.getD (p.length - 1) 0 * scInv (d.getD (d.length - 1) 0)) * d.getD (d.length - 1) 0 + (d.getD (d.length - 1) 0 * scInv (d.getD (d.length - 1) 0) - 1) * p.getD (p.length - 1) 0)
  grind
theorem pQuo_can (a b : List Int) : Can (pQuo a b) := by
  unfold pQuo
  split
  · exact ⟨fun j => by rw [getD_nil]; exact sc_zero, rfl⟩
  · exact dv_can _ _ (pTrim_can _) (pTrim_can _) (by omega) (by omega)
theorem pRem_can (a b : List Int) : Can (pRem a b) := by
  unfold pRem
  split
  · exact ⟨fun j => by rw [getD_nil]; exact sc_zero, rfl⟩
  · split
    · exact pTrim_can _
    · refine Can.of_trim _ (dv_sc2 _ _ _ ?_ _ _ ?_ (pTrim_can a).1)
      · omega
      · unfold dvN; omega
/-- What is left is shorter than what it is divided by. -/
theorem pRem_lt (a b : List Int) (ha : a.length ≤ 64) (hb : b.length ≤ 64) (h0 : 0 < (pTrim b).length) : (pRem a b).length < (pTrim b).length := by
  unfold pRem
  rw [if_neg (by omega)]
  split
  · omega
  · have h1 := dp_inv ((pTrim_can b).last h0)
    have h2 := trim_len_lt (l := (dv (pTrim b) ((pTrim b).length - 1) (dvC (pTrim b)) (dvN (pTrim a) (pTrim b)) (pTrim a)).2) (n := (pTrim b).length - 1) (dv_low _ _ _ (by omega) (h1.of (by unfold dvC; rw [Int.mul_comm])) _ _ (by unfold dvN; omega) (pTrim_can a).1 (fun j hj => getD_out (by unfold dvN at hj; omega)))
    omega
theorem can_nil : Can [] := ⟨fun j => by rw [getD_nil]; exact sc_zero, rfl⟩
/-- It is made up again. -/
theorem div_back (a b : List Int) (ha : a.length ≤ 64) (hb : b.length ≤ 64) : qAdd (qMul (pQuo a b) (pTrim b)) (pRem a b) = pTrim a := by
  have hlb := pTrim_len b
  have hla := pTrim_len a
  have hm := qMul_128 (pQuo a b) (pTrim b)
  have hr := pRem_64 a b
  have had := qAdd_len (qMul (pQuo a b) (pTrim b)) (pRem a b)
  refine made_out (qAdd_can _ _) (pTrim_can a) 200 (by decide) (by omega) (by omega) fun i _ => ?_
  generalize ((1 + i : Nat) : Int) = x
  have h1 := qAdd_ev x (qMul (pQuo a b) (pTrim b)) (pRem a b)
  have h2 := qMul_ev x (pQuo a b) (pTrim b) (pQuo_64 a b) (by omega)
  have h3 : Dp (ev (pTrim a) x - (ev (pQuo a b) x * ev (pTrim b) x + ev (pRem a b) x)) := by
    unfold pQuo pRem
    rw [if_neg (c := 64 < a.length ∨ 64 < b.length) (by omega)]
    by_cases h : (pTrim b).length = 0 ∨ (pTrim a).length < (pTrim b).length
    · rw [if_pos h, if_pos (Or.inr (Or.inr h))]
      exact dp_zero.of (by show ev (pTrim a) x - (0 * ev (pTrim b) x + ev (pTrim a) x) = 0; grind)
    · rw [if_neg h, if_neg (by omega)]
      have h4 := dv_ev x (pTrim b) ((pTrim b).length - 1) (dvC (pTrim b)) (by omega) (dvN (pTrim a) (pTrim b)) (pTrim a) (by unfold dvN; omega)
      have h5 := trimZ_ev x (dv (pTrim b) ((pTrim b).length - 1) (dvC (pTrim b)) (dvN (pTrim a) (pTrim b)) (pTrim a)).2
      exact (h4.sub h5).of (by omega)
  exact ((h1.add h2).sub h3).of (by omega)
/-- In the other's words: a number less. -/
theorem shift_neg (k y : Int) : scMul (scNeg k) y = scNeg (scMul k y) := by
  rw [scMul_eq, scNeg_eq, scNeg_eq, scMul_eq]
  exact sca_of_dp (((dp_sca (-k)).mul y).add (dp_sca (k * y)) |>.of (by grind))

end Go.Proofs.Ytbkfdafdchjakab

/-
  Many rows, one product: no program in here.
-/
namespace Go.Proofs.Ytbkfdafdchjakab

/-- What the rows, in order, have of a wire: t is 0, 1, 2 for A, B, C. -/
def colL (ls : List (List Int)) (n t j : Nat) : List Int := zls (fun i => (ls.getD (i * 3 + t) []).getD j 0) n
theorem colL_len (ls : List (List Int)) (n t j : Nat) : (colL ls n t j).length = n := zls_length _ _
theorem colL_at (ls : List (List Int)) {n i : Nat} (t j : Nat) (h : i < n) : (colL ls n t j).getD i 0 = (ls.getD (i * 3 + t) []).getD j 0 := zls_at _ h
/-- Of each wire a polynomial. -/
def qapN (ls : List (List Int)) (n t : Nat) : Nat → List (List Int)
  | 0 => []
  | k + 1 => qapN ls n t k ++ [pThr (colL ls n t k)]
theorem qapN_len (ls : List (List Int)) (n t : Nat) : ∀ k, (qapN ls n t k).length = k
  | 0 => rfl
  | k + 1 => by rw [qapN, List.length_append, qapN_len ls n t k]; rfl
theorem qapN_at (ls : List (List Int)) (n t : Nat) : ∀ (k j : Nat), j < k → (qapN ls n t k).getD j [] = pThr (colL ls n t j)
  | 0, _, h => by omega
  | k + 1, j, h => by
    rw [qapN, List.getD_eq_getElem?_getD]
    by_cases e : j = k
    · subst e
      rw [List.getElem?_append_right (by rw [qapN_len]; omega), qapN_len, Nat.sub_self]
      rfl
    · rw [List.getElem?_append_left (by rw [qapN_len]; omega), ← List.getD_eq_getElem?_getD]
      exact qapN_at ls n t k j (by omega)

/-- So many numbers, unbounded. -/
def sumZ (f : Nat → Int) : Nat → Int
  | 0 => 0
  | k + 1 => sumZ f k + f k
theorem sumZ_congr {f g : Nat → Int} : ∀ k, (∀ i, i < k → Dp (f i - g i)) → Dp (sumZ f k - sumZ g k)
  | 0, _ => dp_zero.of (by show (0 : Int) - 0 = 0; omega)
  | k + 1, h => ((sumZ_congr k fun i hi => h i (by omega)).add (h k (by omega))).of (by show sumZ f k + f k - (sumZ g k + g k) = _; omega)
/-- Each so often, all together. -/
def mixN (L : List (List Int)) (w : List Int) : Nat → List Int
  | 0 => []
  | k + 1 => qAdd (mixN L w k) (scl (L.getD k []) (w.getD k 0))
def pMix (L : List (List Int)) (w : List Int) : List Int := mixN L w (min L.length w.length)
theorem mixN_can (L : List (List Int)) (w : List Int) : ∀ k, Can (mixN L w k)
  | 0 => can_nil
  | _ + 1 => qAdd_can _ _
theorem mixN_ev (x : Int) (L : List (List Int)) (w : List Int) : ∀ k, Dp (ev (mixN L w k) x - sumZ (fun i => w.getD i 0 * ev (L.getD i []) x) k)
  | 0 => dp_zero.of (by show (0 : Int) - 0 = 0; omega)
  | k + 1 => by
    have h1 := qAdd_ev x (mixN L w k) (scl (L.getD k []) (w.getD k 0))
    have h2 := scl_ev x (w.getD k 0) (L.getD k [])
    have h3 := mixN_ev x L w k
    exact ((h1.add h2).add h3).of (by show ev (qAdd (mixN L w k) (scl (L.getD k []) (w.getD k 0))) x - (sumZ (fun i => w.getD i 0 * ev (L.getD i []) x) k + w.getD k 0 * ev (L.getD k []) x) = _; omega)
theorem mixN_len (L : List (List Int)) (w : List Int) (b : Nat) : ∀ k, (∀ i, i < k → (L.getD i []).length ≤ b) → (mixN L w k).length ≤ b
  | 0, _ => Nat.zero_le _
  | k + 1, h => by
    have h1 := qAdd_len (mixN L w k) (scl (L.getD k []) (w.getD k 0))
    have h2 := mixN_len L w b k fun i hi => h i (by omega)
    have h3 := h k (by omega)
    rw [scl_len] at h1
    show (qAdd _ _).length ≤ _
    omega
/-- At each place. -/
theorem qAdd_at (a b : List Int) (j : Nat) : Dp ((qAdd a b).getD j 0 - (a.getD j 0 + b.getD j 0)) := by
  have hz : (zls (padF a b) (max a.length b.length)).getD j 0 = padF a b j := by
    by_cases hj : j < max a.length b.length
    · exact zls_at _ hj
    · rw [getD_out (by rw [zls_length]; omega)]
      unfold padF
      rw [if_neg (by omega), if_neg (by omega)]
  rw [show qAdd a b = pTrim (zls (padF a b) (max a.length b.length)) from rfl, pTrim_at, hz]
  refine ((dp_sca (padF a b j)).add (?_ : Dp (padF a b j - (a.getD j 0 + b.getD j 0)))).of (by omega)
  unfold padF
  by_cases hb : j < b.length <;> by_cases ha : j < a.length
  · rw [if_pos hb, if_pos ha]
    exact ((dp_scAdd (scAdd 0 (a.getD j 0)) (b.getD j 0)).add (dp_scAdd 0 (a.getD j 0))).of (by omega)
  · rw [if_pos hb, if_neg ha, getD_out (l := a) (by omega)]
    exact (dp_scAdd 0 (b.getD j 0)).of (by omega)
  · rw [if_neg hb, if_pos ha, getD_out (l := b) (by omega)]
    exact (dp_scAdd 0 (a.getD j 0)).of (by omega)
  · rw [if_neg hb, if_neg ha, getD_out (l := a) (by omega), getD_out (l := b) (by omega)]
    exact dp_zero.of (by omega)
theorem scl_at (l : List Int) (c : Int) (j : Nat) : Dp ((scl l c).getD j 0 - c * l.getD j 0) := by
  unfold scl
  by_cases h : j < l.length
  · simp only [List.getD_eq_getElem?_getD, List.getElem?_map, List.getElem?_eq_getElem h, Option.map_some, Option.getD_some]
    exact (dp_scMul l[j] c).of (by grind)
  · rw [getD_out (by simp; omega), getD_out (by omega)]
    exact dp_zero.of (by omega)
theorem mixN_at (j : Nat) (L : List (List Int)) (w : List Int) : ∀ k, Dp ((mixN L w k).getD j 0 - sumZ (fun i => w.getD i 0 * (L.getD i []).getD j 0) k)
  | 0 => dp_zero.of (by show (([] : List Int).getD j 0) - 0 = 0; rw [getD_nil]; omega)
  | k + 1 => by
    have h1 := qAdd_at (mixN L w k) (scl (L.getD k []) (w.getD k 0)) j
    have h2 := scl_at (L.getD k []) (w.getD k 0) j
    have h3 := mixN_at j L w k
    exact ((h1.add h2).add h3).of (by show (qAdd (mixN L w k) (scl (L.getD k []) (w.getD k 0))).getD j 0 - (sumZ (fun i => w.getD i 0 * (L.getD i []).getD j 0) k + w.getD k 0 * (L.getD k []).getD j 0) = _; omega)

/-- What a row makes of the numbers. -/
def rowE (ls : List (List Int)) (w : List Int) (wi t i : Nat) : Int := sumZ (fun j => w.getD j 0 * (ls.getD (i * 3 + t) []).getD j 0) wi
/-- Mixed, at the place of a row. -/
theorem mix_row (ls : List (List Int)) (w : List Int) {n wi : Nat} (t : Nat) (hn : n ≤ 16) {i : Nat} (hi : i < n) : Dp (ev (mixN (qapN ls n t wi) w wi) ((i : Int) + 1) - rowE ls w wi t i) := by
  have h1 := mixN_ev ((i : Int) + 1) (qapN ls n t wi) w wi
  have h2 : Dp (sumZ (fun j => w.getD j 0 * ev ((qapN ls n t wi).getD j []) ((i : Int) + 1)) wi - rowE ls w wi t i) := sumZ_congr wi fun j hj => by
    rw [qapN_at ls n t wi j hj]
    have h3 := thrL_ev (colL ls n t j) n hn i hi
    rw [colL_at ls t j hi] at h3
    have e : pThr (colL ls n t j) = thrL (colL ls n t j) n := by
      unfold pThr
      rw [colL_len, if_neg (by omega)]
    rw [e]
    exact (h3.mul (w.getD j 0)).of (by grind)
  exact (h1.add h2).of (by omega)
theorem mix_small (ls : List (List Int)) (w : List Int) {n wi : Nat} (t : Nat) (hn : n ≤ 16) : (mixN (qapN ls n t wi) w wi).length ≤ n := mixN_len _ _ _ _ fun j hj => by
  rw [qapN_at ls n t wi j hj]
  unfold pThr
  rw [colL_len, if_neg (by omega)]
  exact thrL_small _ _

/-- What is divided. -/
def numL (a b c : List Int) : List Int := qAdd (qMul a b) (scl c (-1))
theorem numL_ev (x : Int) (a b c : List Int) (ha : a.length ≤ 64) (hb : b.length ≤ 64) : Dp (ev (numL a b c) x - (ev a x * ev b x - ev c x)) := by
  have h1 := qAdd_ev x (qMul a b) (scl c (-1))
  have h2 := qMul_ev x a b ha hb
  have h3 := scl_ev x (-1) c
  exact ((h1.add h2).add h3).of (by unfold numL; omega)
theorem numL_len {a b c : List Int} {n : Nat} (ha : a.length ≤ n) (hb : b.length ≤ n) (hc : c.length ≤ n) (hn : 1 ≤ n) : (numL a b c).length ≤ 2 * n - 1 := by
  have h1 := qAdd_len (qMul a b) (scl c (-1))
  have h2 := qMul_len2 a b (2 * n - 1) (by omega)
  rw [scl_len] at h1
  unfold numL
  omega
theorem numL_can (a b c : List Int) : Can (numL a b c) := qAdd_can _ _

/-- The one that is 0 at the rows. -/
theorem zerL_can : ∀ k, Can (zerL k)
  | 0 => ⟨fun j => by
      show Sc (([1] : List Int).getD j 0)
      cases j with
      | zero => exact ⟨by decide, by decide⟩
      | succ j => rw [getD_out (by simp)]; exact sc_zero, by decide⟩
  | _ + 1 => qMul_can _ _
theorem zerL_row {n i : Nat} (hn : n ≤ 16) (hi : i < n) : Dp (ev (zerL n) ((i : Int) + 1)) := by
  have h := zerL_ev ((i : Int) + 1) n hn
  rw [zerE_zero n i hi] at h
  exact h.of (by omega)
theorem zerL_next {n : Nat} (hn : n ≤ 16) : ¬ Dp (ev (zerL n) ((n : Int) + 1)) := fun hd => zerE_next n 1 (by omega) (by decide) ((hd.sub (zerL_ev ((n : Int) + 1) n hn)).of (by show zerE n ((n : Int) + 1) = _; omega))
theorem zerL_exact {n : Nat} (hn : n ≤ 16) : (zerL n).length = n + 1 := by
  have h1 := zerL_small n
  rcases Nat.lt_or_ge (zerL n).length (n + 1) with h | h
  · have e : zerL n = [] := made_out (zerL_can n) can_nil n (by omega) (by omega) (Nat.zero_le _) fun i hi => by
      rw [show ((1 + i : Nat) : Int) = (i : Int) + 1 by omega]
      exact (zerL_row hn hi).of (by show _ - 0 = _; omega)
    exact absurd (by rw [e]; exact dp_zero) (zerL_next hn)
  · omega

/-- Whether something is left. -/
theorem left_none {a b c : List Int} {n : Nat} (hn : 1 ≤ n) (hn2 : n ≤ 16) (ha : a.length ≤ n) (hb : b.length ≤ n) (hc : c.length ≤ n) :
    pRem (numL a b c) (zerL n) = [] ↔ ∀ i, i < n → Dp (ev a ((i : Int) + 1) * ev b ((i : Int) + 1) - ev c ((i : Int) + 1)) := by
  have hl := numL_len ha hb hc hn
  have hz := zerL_exact hn2
  have hT : pTrim (zerL n) = zerL n := trim_self (zerL_can n)
  have hP : pTrim (numL a b c) = numL a b c := trim_self (numL_can a b c)
  have hbk := div_back (numL a b c) (zerL n) (by omega) (by omega)
  rw [hT, hP] at hbk
  have key : ∀ i, i < n → Dp (ev (pRem (numL a b c) (zerL n)) ((i : Int) + 1) - (ev a ((i : Int) + 1) * ev b ((i : Int) + 1) - ev c ((i : Int) + 1))) := fun i hi => by
    have h1 := qAdd_ev ((i : Int) + 1) (qMul (pQuo (numL a b c) (zerL n)) (zerL n)) (pRem (numL a b c) (zerL n))
    have h2 := qMul_ev ((i : Int) + 1) (pQuo (numL a b c) (zerL n)) (zerL n) (pQuo_64 _ _) (by omega)
    have h3 := numL_ev ((i : Int) + 1) a b c (by omega) (by omega)
    have h4 := zerL_row hn2 hi
    rw [hbk] at h1
    exact (((h3.sub h1).sub h2).sub (h4.mul (ev (pQuo (numL a b c) (zerL n)) ((i : Int) + 1)))).of (by grind)
  constructor
  · intro hr i hi
    have h := key i hi
    rw [hr] at h
    exact h.neg.of (by show _ = -(0 - _); omega)
  · intro h
    have hlt := pRem_lt (numL a b c) (zerL n) (by omega) (by omega) (by rw [hT]; omega)
    rw [hT, hz] at hlt
    refine made_out (pRem_can _ _) can_nil n (by omega) (by omega) (Nat.zero_le _) fun i hi => ?_
    rw [show ((1 + i : Nat) : Int) = (i : Int) + 1 by omega]
    exact ((key i hi).add (h i hi)).of (by show _ - 0 = _; omega)
/-- The quotient is shorter than there are rows. -/
theorem quo_lt {a b c : List Int} {n : Nat} (hn : 1 ≤ n) (hn2 : n ≤ 16) (ha : a.length ≤ n) (hb : b.length ≤ n) (hc : c.length ≤ n) : (pQuo (numL a b c) (zerL n)).length < n := by
  have hl := numL_len ha hb hc hn
  have hz := zerL_exact hn2
  have hT : pTrim (zerL n) = zerL n := trim_self (zerL_can n)
  have hP : pTrim (numL a b c) = numL a b c := trim_self (numL_can a b c)
  unfold pQuo
  split
  · exact hn
  · rw [dv_len1]
    unfold dvN
    rw [hT, hP, hz]
    omega
/-- At whatever place. -/
theorem quo_at {a b c : List Int} {n : Nat} (hn : 1 ≤ n) (hn2 : n ≤ 16) (ha : a.length ≤ n) (hb : b.length ≤ n) (hc : c.length ≤ n) (hr : pRem (numL a b c) (zerL n) = []) (x : Int) :
    scMul (pAt a x) (pAt b x) = scAdd (pAt c x) (scMul (pAt (pQuo (numL a b c) (zerL n)) x) (pAt (zerL n) x)) := by
  have hl := numL_len ha hb hc hn
  have hz := zerL_exact hn2
  have hT : pTrim (zerL n) = zerL n := trim_self (zerL_can n)
  have hP : pTrim (numL a b c) = numL a b c := trim_self (numL_can a b c)
  have hbk := div_back (numL a b c) (zerL n) (by omega) (by omega)
  rw [hT, hP, hr] at hbk
  have h1 := qAdd_ev x (qMul (pQuo (numL a b c) (zerL n)) (zerL n)) []
  have h2 := qMul_ev x (pQuo (numL a b c) (zerL n)) (zerL n) (pQuo_64 _ _) (by omega)
  have h3 := numL_ev x a b c (by omega) (by omega)
  rw [hbk] at h1
  rw [pAt_ev, pAt_ev, pAt_ev, pAt_ev, pAt_ev, scMul_eq, scMul_eq, scAdd_eq, sca_mul_left, sca_mul_right, sca_mul_left, sca_mul_right, sca_add_left, sca_add_right]
  refine sca_of_dp ((h1.sub h3).add h2 |>.of ?_)
  show _ = ev (numL a b c) x - (ev (qMul (pQuo (numL a b c) (zerL n)) (zerL n)) x + 0) - (ev (numL a b c) x - (ev a x * ev b x - ev c x)) + (ev (qMul (pQuo (numL a b c) (zerL n)) (zerL n)) x - ev (pQuo (numL a b c) (zerL n)) x * ev (zerL n) x)
  omega

end Go.Proofs.Ytbkfdafdchjakab
