/-
  Texts of one's own, joined.
-/
import Derived.Test.YtjlijflfepffiaaJoined3
import Derived.Test.YtjlijflfepffiaaProg
import Derived.WalkKit

/-
  Many rows, one product: no program in here.
-/
namespace Go.Proofs.Ytjlijflfepffiaa

/-- What the rows, in order, have of a wire: t is 0, 1, 2 for A, B, C. -/
def colL (ls : List (List Int)) (n t j : Nat) : List Int := zls (fun i => (ls.getD (i * 3 + t) []).getD j 0) n
theorem colL_len (ls : List (List Int)) (n t j : Nat) : (colL ls n t j).length = n := zls_length _ _
theorem colL_at (ls : List (List Int)) {n i : Nat} (t j : Nat) (h : i < n) : (colL ls n t j).getD i 0 = (ls.getD (i * 3 + t) []).getD j 0 := zls_at _ h
/-- Of each wire a polynomial. -/
def qapN (ls : List (List Int)) (n t : Nat) : Nat → List (List Int)
  | 0 => []
  | k + 1 => qapN ls n t k ++ [pThr (colL ls n t k)]
theorem qapN_len (ls : List (List Int)) (n t : Nat) : ∀ k, (qapN ls n t k).length = k
  | 0 => rfl
  | k + 1 => by rw [qapN, List.length_append, qapN_len ls n t k]; rfl
theorem qapN_at (ls : List (List Int)) (n t : Nat) : ∀ (k j : Nat), j < k → (qapN ls n t k).getD j [] = pThr (colL ls n t j)
  | 0, _, h => by omega
  | k + 1, j, h => by
    rw [qapN, List.getD_eq_getElem?_getD]
    by_cases e : j = k
    · subst e
      rw [List.getElem?_append_right (by rw [qapN_len]; omega), qapN_len, Nat.sub_self]
      rfl
    · rw [List.getElem?_append_left (by rw [qapN_len]; omega), ← List.getD_eq_getElem?_getD]
      exact qapN_at ls n t k j (by omega)

/-- So many numbers, unbounded. -/
def sumI (f : Nat → Int) : Nat → Int
  | 0 => 0
  | k + 1 => sumI f k + f k
theorem sumI_congr {f g : Nat → Int} : ∀ k, (∀ i, i < k → Dp (f i - g i)) → Dp (sumI f k - sumI g k)
  | 0, _ => dp_zero.of (by show (0 : Int) - 0 = 0; omega)
  | k + 1, h => ((sumI_congr k fun i hi => h i (by omega)).add (h k (by omega))).of (by show sumI f k + f k - (sumI g k + g k) = _; omega)
/-- Each so often, all together. -/
def mixN (L : List (List Int)) (w : List Int) : Nat → List Int
  | 0 => []
  | k + 1 => pAdd (mixN L w k) (scl (L.getD k []) (w.getD k 0))
def pMix (L : List (List Int)) (w : List Int) : List Int := mixN L w (min L.length w.length)
theorem mixN_can (L : List (List Int)) (w : List Int) : ∀ k, Can (mixN L w k)
  | 0 => can_nil
  | _ + 1 => pAdd_can _ _
theorem mixN_ev (x : Int) (L : List (List Int)) (w : List Int) : ∀ k, Dp (ev (mixN L w k) x - sumI (fun i => w.getD i 0 * ev (L.getD i []) x) k)
  | 0 => dp_zero.of (by show (0 : Int) - 0 = 0; omega)
  | k + 1 => by
    have h1 := pAdd_ev x (mixN L w k) (scl (L.getD k []) (w.getD k 0))
    have h2 := scl_ev x (w.getD k 0) (L.getD k [])
    have h3 := mixN_ev x L w k
    exact ((h1.add h2).add h3).of (by show ev (pAdd (mixN L w k) (scl (L.getD k []) (w.getD k 0))) x - (sumI (fun i => w.getD i 0 * ev (L.getD i []) x) k + w.getD k 0 * ev (L.getD k []) x) = _; omega)
theorem mixN_len (L : List (List Int)) (w : List Int) (b : Nat) : ∀ k, (∀ i, i < k → (L.getD i []).length ≤ b) → (mixN L w k).length ≤ b
  | 0, _ => Nat.zero_le _
  | k + 1, h => by
    have h1 := pAdd_len (mixN L w k) (scl (L.getD k []) (w.getD k 0))
    have h2 := mixN_len L w b k fun i hi => h i (by omega)
    have h3 := h k (by omega)
    rw [scl_len] at h1
    show (pAdd _ _).length ≤ _
    omega
/-- At each place. -/
theorem pAdd_at (a b : List Int) (j : Nat) : Dp ((pAdd a b).getD j 0 - (a.getD j 0 + b.getD j 0)) := by
  have hz : (zls (padF a b) (max a.length b.length)).getD j 0 = padF a b j := by
    by_cases hj : j < max a.length b.length
    · exact zls_at _ hj
    · rw [getD_out (by rw [zls_length]; omega)]
      unfold padF
      rw [if_neg (by omega), if_neg (by omega)]
  rw [show pAdd a b = pTrim (zls (padF a b) (max a.length b.length)) from rfl, pTrim_at, hz]
  refine ((dp_sca (padF a b j)).add (?_ : Dp (padF a b j - (a.getD j 0 + b.getD j 0)))).of (by omega)
  unfold padF
  by_cases hb : j < b.length <;> by_cases ha : j < a.length
  · rw [if_pos hb, if_pos ha]
    exact ((dp_scAdd (scAdd 0 (a.getD j 0)) (b.getD j 0)).add (dp_scAdd 0 (a.getD j 0))).of (by omega)
  · rw [if_pos hb, if_neg ha, getD_out (l := a) (by omega)]
    exact (dp_scAdd 0 (b.getD j 0)).of (by omega)
  · rw [if_neg hb, if_pos ha, getD_out (l := b) (by omega)]
    exact (dp_scAdd 0 (a.getD j 0)).of (by omega)
  · rw [if_neg hb, if_neg ha, getD_out (l := a) (by omega), getD_out (l := b) (by omega)]
    exact dp_zero.of (by omega)
theorem scl_at (l : List Int) (c : Int) (j : Nat) : Dp ((scl l c).getD j 0 - c * l.getD j 0) := by
  unfold scl
  by_cases h : j < l.length
  · simp only [List.getD_eq_getElem?_getD, List.getElem?_map, List.getElem?_eq_getElem h, Option.map_some, Option.getD_some]
    exact (dp_scMul l[j] c).of (by grind)
  · rw [getD_out (by simp; omega), getD_out (by omega)]
    exact dp_zero.of (by omega)
theorem mixN_at (j : Nat) (L : List (List Int)) (w : List Int) : ∀ k, Dp ((mixN L w k).getD j 0 - sumI (fun i => w.getD i 0 * (L.getD i []).getD j 0) k)
  | 0 => dp_zero.of (by show (([] : List Int).getD j 0) - 0 = 0; rw [getD_nil]; omega)
  | k + 1 => by
    have h1 := pAdd_at (mixN L w k) (scl (L.getD k []) (w.getD k 0)) j
    have h2 := scl_at (L.getD k []) (w.getD k 0) j
    have h3 := mixN_at j L w k
    exact ((h1.add h2).add h3).of (by show (pAdd (mixN L w k) (scl (L.getD k []) (w.getD k 0))).getD j 0 - (sumI (fun i => w.getD i 0 * (L.getD i []).getD j 0) k + w.getD k 0 * (L.getD k []).getD j 0) = _; omega)

/-- What a row makes of the numbers. -/
def rowE (ls : List (List Int)) (w : List Int) (wi t i : Nat) : Int := sumI (fun j => w.getD j 0 * (ls.getD (i * 3 + t) []).getD j 0) wi
/-- Mixed, at the place of a row. -/
theorem mix_row (ls : List (List Int)) (w : List Int) {n wi : Nat} (t : Nat) (hn : n ≤ 16) {i : Nat} (hi : i < n) : Dp (ev (mixN (qapN ls n t wi) w wi) ((i : Int) + 1) - rowE ls w wi t i) := by
  have h1 := mixN_ev ((i : Int) + 1) (qapN ls n t wi) w wi
  have h2 : Dp (sumI (fun j => w.getD j 0 * ev ((qapN ls n t wi).getD j []) ((i : Int) + 1)) wi - rowE ls w wi t i) := sumI_congr wi fun j hj => by
    rw [qapN_at ls n t wi j hj]
    have h3 := thrL_ev (colL ls n t j) n hn i hi
    rw [colL_at ls t j hi] at h3
    have e : pThr (colL ls n t j) = thrL (colL ls n t j) n := by
      unfold pThr
      rw [colL_len, if_neg (by omega)]
    rw [e]
    exact (h3.mul (w.getD j 0)).of (by grind)
  exact (h1.add h2).of (by omega)
theorem mix_small (ls : List (List Int)) (w : List Int) {n wi : Nat} (t : Nat) (hn : n ≤ 16) : (mixN (qapN ls n t wi) w wi).length ≤ n := mixN_len _ _ _ _ fun j hj => by
  rw [qapN_at ls n t wi j hj]
  unfold pThr
  rw [colL_len, if_neg (by omega)]
  exact thrL_small _ _

/-- What is divided. -/
def numL (a b c : List Int) : List Int := pAdd (pMul a b) (scl c (-1))
theorem numL_ev (x : Int) (a b c : List Int) (ha : a.length ≤ 64) (hb : b.length ≤ 64) : Dp (ev (numL a b c) x - (ev a x * ev b x - ev c x)) := by
  have h1 := pAdd_ev x (pMul a b) (scl c (-1))
  have h2 := pMul_ev x a b ha hb
  have h3 := scl_ev x (-1) c
  exact ((h1.add h2).add h3).of (by unfold numL; omega)
theorem numL_len {a b c : List Int} {n : Nat} (ha : a.length ≤ n) (hb : b.length ≤ n) (hc : c.length ≤ n) (hn : 1 ≤ n) : (numL a b c).length ≤ 2 * n - 1 := by
  have h1 := pAdd_len (pMul a b) (scl c (-1))
  have h2 := pMul_len2 a b (2 * n - 1) (by omega)
  rw [scl_len] at h1
  unfold numL
  omega
theorem numL_can (a b c : List Int) : Can (numL a b c) := pAdd_can _ _

/-- The one that is 0 at the rows. -/
theorem zerL_can : ∀ k, Can (zerL k)
  | 0 => ⟨fun j => by
      show Sc (([1] : List Int).getD j 0)
      cases j with
      | zero => exact ⟨by decide, by decide⟩
      | succ j => rw [getD_out (by simp)]; exact sc_zero, by decide⟩
  | _ + 1 => pMul_can _ _
theorem zerL_row {n i : Nat} (hn : n ≤ 16) (hi : i < n) : Dp (ev (zerL n) ((i : Int) + 1)) := by
  have h := zerL_ev ((i : Int) + 1) n hn
  rw [zerE_zero n i hi] at h
  exact h.of (by omega)
theorem zerL_next {n : Nat} (hn : n ≤ 16) : ¬ Dp (ev (zerL n) ((n : Int) + 1)) := fun hd => zerE_next n 1 (by omega) (by decide) ((hd.sub (zerL_ev ((n : Int) + 1) n hn)).of (by show zerE n ((n : Int) + 1) = _; omega))
theorem zerL_exact {n : Nat} (hn : n ≤ 16) : (zerL n).length = n + 1 := by
  have h1 := zerL_small n
  rcases Nat.lt_or_ge (zerL n).length (n + 1) with h | h
  · have e : zerL n = [] := made_out (zerL_can n) can_nil n (by omega) (by omega) (Nat.zero_le _) fun i hi => by
      rw [show ((1 + i : Nat) : Int) = (i : Int) + 1 by omega]
      exact (zerL_row hn hi).of (by show _ - 0 = _; omega)
    exact absurd (by rw [e]; exact dp_zero) (zerL_next hn)
  · omega

/-- Whether something is left. -/
theorem left_none {a b c : List Int} {n : Nat} (hn : 1 ≤ n) (hn2 : n ≤ 16) (ha : a.length ≤ n) (hb : b.length ≤ n) (hc : c.length ≤ n) :
    pRem (numL a b c) (zerL n) = [] ↔ ∀ i, i < n → Dp (ev a ((i : Int) + 1) * ev b ((i : Int) + 1) - ev c ((i : Int) + 1)) := by
  have hl := numL_len ha hb hc hn
  have hz := zerL_exact hn2
  have hT : pTrim (zerL n) = zerL n := trim_self (zerL_can n)
  have hP : pTrim (numL a b c) = numL a b c := trim_self (numL_can a b c)
  have hbk := div_back (numL a b c) (zerL n) (by omega) (by omega)
  rw [hT, hP] at hbk
  have key : ∀ i, i < n → Dp (ev (pRem (numL a b c) (zerL n)) ((i : Int) + 1) - (ev a ((i : Int) + 1) * ev b ((i : Int) + 1) - ev c ((i : Int) + 1))) := fun i hi => by
    have h1 := pAdd_ev ((i : Int) + 1) (pMul (pQuo (numL a b c) (zerL n)) (zerL n)) (pRem (numL a b c) (zerL n))
    have h2 := pMul_ev ((i : Int) + 1) (pQuo (numL a b c) (zerL n)) (zerL n) (pQuo_64 _ _) (by omega)
    have h3 := numL_ev ((i : Int) + 1) a b c (by omega) (by omega)
    have h4 := zerL_row hn2 hi
    rw [hbk] at h1
    exact (((h3.sub h1).sub h2).sub (h4.mul (ev (pQuo (numL a b c) (zerL n)) ((i : Int) + 1)))).of (by grind)
  constructor
  · intro hr i hi
    have h := key i hi
    rw [hr] at h
    exact h.neg.of (by show _ = -(0 - _); omega)
  · intro h
    have hlt := pRem_lt (numL a b c) (zerL n) (by omega) (by omega) (by rw [hT]; omega)
    rw [hT, hz] at hlt
    refine made_out (pRem_can _ _) can_nil n (by omega) (by omega) (Nat.zero_le _) fun i hi => ?_
    rw [show ((1 + i : Nat) : Int) = (i : Int) + 1 by omega]
    exact ((key i hi).add (h i hi)).of (by show _ - 0 = _; omega)
/-- The quotient is shorter than there are rows. -/
theorem quo_lt {a b c : List Int} {n : Nat} (hn : 1 ≤ n) (hn2 : n ≤ 16) (ha : a.length ≤ n) (hb : b.length ≤ n) (hc : c.length ≤ n) : (pQuo (numL a b c) (zerL n)).length < n := by
  have hl := numL_len ha hb hc hn
  have hz := zerL_exact hn2
  have hT : pTrim (zerL n) = zerL n := trim_self (zerL_can n)
  have hP : pTrim (numL a b c) = numL a b c := trim_self (numL_can a b c)
  unfold pQuo
  split
  · exact hn
  · rw [dv_len1]
    unfold dvN
    rw [hT, hP, hz]
    omega
/-- At whatever place. -/
theorem quo_at {a b c : List Int} {n : Nat} (hn : 1 ≤ n) (hn2 : n ≤ 16) (ha : a.length ≤ n) (hb : b.length ≤ n) (hc : c.length ≤ n) (hr : pRem (numL a b c) (zerL n) = []) (x : Int) :
    scMul (pAt a x) (pAt b x) = scAdd (pAt c x) (scMul (pAt (pQuo (numL a b c) (zerL n)) x) (pAt (zerL n) x)) := by
  have hl := numL_len ha hb hc hn
  have hz := zerL_exact hn2
  have hT : pTrim (zerL n) = zerL n := trim_self (zerL_can n)
  have hP : pTrim (numL a b c) = numL a b c := trim_self (numL_can a b c)
  have hbk := div_back (numL a b c) (zerL n) (by omega) (by omega)
  rw [hT, hP, hr] at hbk
  have h1 := pAdd_ev x (pMul (pQuo (numL a b c) (zerL n)) (zerL n)) []
  have h2 := pMul_ev x (pQuo (numL a b c) (zerL n)) (zerL n) (pQuo_64 _ _) (by omega)
  have h3 := numL_ev x a b c (by omega) (by omega)
  rw [hbk] at h1
  rw [pAt_ev, pAt_ev, pAt_ev, pAt_ev, pAt_ev, scMul_eq, scMul_eq, scAdd_eq, sca_mul_left, sca_mul_right, sca_mul_left, sca_mul_right, sca_add_left, sca_add_right]
  refine sca_of_dp ((h1.sub h3).add h2 |>.of ?_)
  show _ = ev (numL a b c) x - (ev (pMul (pQuo (numL a b c) (zerL n)) (zerL n)) x + 0) - (ev (numL a b c) x - (ev a x * ev b x - ev c x)) + (ev (pMul (pQuo (numL a b c) (zerL n)) (zerL n)) x - ev (pQuo (numL a b c) (zerL n)) x * ev (zerL n) x)
  omega

end Go.Proofs.Ytjlijflfepffiaa

/-
  What is mixed in one list from the first to the last: no program in here.
-/
namespace Go.Proofs.Ytjlijflfepffiaa

/-- In one list, each so often. -/
def mixS (L : List (List Int)) (w : List Int) (n : Nat) : Nat → List Int
  | 0 => List.replicate n 0
  | k + 1 => addSh (mixS L w n k) 0 (w.getD k 0) (L.getD k [])
theorem mixS_len (L : List (List Int)) (w : List Int) (n : Nat) : ∀ k, (mixS L w n k).length = n
  | 0 => by rw [mixS, List.length_replicate]
  | k + 1 => by rw [mixS, addSh_len, mixS_len L w n k]
theorem mixS_sc (L : List (List Int)) (w : List Int) (n : Nat) : ∀ k, (∀ i, i < k → (L.getD i []).length ≤ n) → ∀ j, Sc ((mixS L w n k).getD j 0)
  | 0, _, j => by rw [mixS, rep_at]; exact sc_zero
  | k + 1, h, j => by
    rw [mixS]
    exact addSh_sc 0 _ (by rw [mixS_len]; have := h k (by omega); omega) (mixS_sc L w n k fun i hi => h i (by omega)) j
theorem mixS_at (j : Nat) (L : List (List Int)) (w : List Int) (n : Nat) : ∀ k, (∀ i, i < k → (L.getD i []).length ≤ n) → Dp ((mixS L w n k).getD j 0 - sumI (fun i => w.getD i 0 * (L.getD i []).getD j 0) k)
  | 0, _ => by
    rw [mixS, rep_at]
    exact dp_zero.of (by show (0 : Int) - 0 = 0; omega)
  | k + 1, h => by
    have ih := mixS_at j L w n k fun i hi => h i (by omega)
    have hl : 0 + (L.getD k []).length ≤ (mixS L w n k).length := by rw [mixS_len]; have := h k (by omega); omega
    rw [mixS, addSh_at _ 0 _ _ hl j, sumI]
    unfold shF
    by_cases hj : j < (L.getD k []).length
    · rw [if_pos (by omega), Nat.sub_zero]
      exact ((dp_scAdd ((mixS L w n k).getD j 0) (scMul (w.getD k 0) ((L.getD k []).getD j 0))).add ((dp_scMul (w.getD k 0) ((L.getD k []).getD j 0)).add ih)).of (by omega)
    · rw [if_neg (by omega), getD_out (l := L.getD k []) (by omega)]
      exact ih.of (by omega)
theorem mix_same (L : List (List Int)) (w : List Int) (n k : Nat) (h : ∀ i, i < k → (L.getD i []).length ≤ n) : trimZ (mixS L w n k) = mixN L w k :=
  can_eq (Can.of_trim _ (mixS_sc L w n k h)) (mixN_can L w k) fun j => by
    rw [trimZ_at]
    exact ((mixS_at j L w n k h).sub (mixN_at j L w k)).of (by omega)

/-- The greatest length of the first so many. -/
def maxLn (L : List (List Int)) : Nat → Nat
  | 0 => 0
  | k + 1 => max (maxLn L k) (L.getD k []).length
theorem maxLn_le (L : List (List Int)) : ∀ k i, i < k → (L.getD i []).length ≤ maxLn L k
  | 0, _, h => by omega
  | k + 1, i, h => by
    rw [maxLn]
    by_cases e : i = k
    · subst e; omega
    · have := maxLn_le L k i (by omega); omega
theorem maxLn_big (L : List (List Int)) (b : Nat) (h : ∀ j, (L.getD j []).length ≤ b) : ∀ k, maxLn L k ≤ b
  | 0 => Nat.zero_le _
  | k + 1 => by rw [maxLn]; have := maxLn_big L b h k; have := h k; omega
theorem pMix_same (L : List (List Int)) (w : List Int) : trimZ (mixS L w (maxLn L (min L.length w.length)) (min L.length w.length)) = pMix L w := mix_same L w _ _ (maxLn_le L _)

/-- One less another. -/
theorem mix_less (p c : List Int) : pMix [p, c] [1, -1] = pAdd p (scl c (-1)) := can_eq (mixN_can _ _ _) (pAdd_can _ _) fun j => by
  have h1 := mixN_at j [p, c] [1, -1] 2
  have h2 := pAdd_at p (scl c (-1)) j
  have h3 := scl_at c (-1) j
  have e : sumI (fun i => ([1, -1] : List Int).getD i 0 * (([p, c] : List (List Int)).getD i []).getD j 0) 2 = 0 + 1 * p.getD j 0 + -1 * c.getD j 0 := rfl
  rw [e] at h1
  exact ((h1.sub h2).sub h3).of (by show (mixN [p, c] [1, -1] 2).getD j 0 - _ = _; omega)

end Go.Proofs.Ytjlijflfepffiaa

/-
  Rows of bytes.
  (-DROP-: what the seat lacks is left out.)
-/
namespace Go.Proofs.Ytjlijflfepffiaa
open Go.RowKit

def bytesV (l : List UInt8) : List Value := l.map fun c => .int .u8 (c.toNat : Int)

theorem bytesV_append (a b : List UInt8) : bytesV (a ++ b) = bytesV a ++ bytesV b := by simp [bytesV]

theorem toNat_of {n : Nat} (h : n < 256) : (UInt8.ofNat n).toNat = n := by simp; omega

theorem bytesV_one {n : Nat} (h : n < 256) : bytesV [UInt8.ofNat n] = [.int .u8 (n : Int)] := by simp only [bytesV, List.map_cons, List.map_nil, toNat_of h]

theorem row_form {w : World} {B e sz n : Nat} {v : Value} {xs : List Value} (h : w.ownsRow B e sz v n xs) : ∃ a cap, v = .slice a n cap := by
  rcases h.2 with ⟨rfl, h0⟩ | ⟨g, cap, cur, rfl, _⟩
  · subst h0; exact ⟨_, _, rfl⟩
  · exact ⟨_, _, rfl⟩

theorem one_cell (k : IntKind) (z : Int) : ∀ u ∈ [Value.int k z], u.oneCell' = true := by
  intro u hu; simp at hu; subst hu; rfl

theorem room_for {B : Nat} {w : World} (h : B ≤ w.heap.size) (o : Obj) : B ≤ (w.alloc o).heap.size := by simp; omega

theorem cells_of_row {w : World} {B e g cap : Nat} {l : List UInt8} (h : w.ownsRow B e 1 (.slice (some ⟨g, 0, none⟩) l.length cap) l.length (bytesV l)) :
    ∀ j (hj : j < l.length), w.cell? ((⟨g, 0, none⟩ : Addr).add j) = some (.int .u8 (l[j].toNat : Int)) := fun j hj => by
  rw [Addr.add_lit, Nat.zero_add, h.cellAt j (by omega)]
  simp [bytesV, hj]

theorem info5 : (Try.prog.info? 5).map (fun i => (i.zero, i.size, i.bytes)) = some (some (.int .u8 0), 1, 1) := by kernel_rfl

theorem text_of_nil (w : World) : (convert 22 9 (.slice none 0 0)).run Try.prog w = .ok (.string ⟨#[]⟩) w := by
  rw [run_convert_bytes_string w 22 9 5 none 0 0 Try.underlying22 Try.underlying5 Try.underlying9]
  rfl

theorem text_of_row {w : World} {B : Nat} {v : Value} {l : List UInt8} (h : w.ownsRow B 5 1 v l.length (bytesV l)) :
    (convert 22 9 v).run Try.prog w = .ok (.string ⟨l.toArray⟩) w := by
  rcases h.2 with ⟨rfl, h0⟩ | ⟨g, cap, cur, rfl, hg, hh, hnc, hcp, hcs, htake⟩
  · obtain rfl : l = [] := List.length_eq_zero_iff.1 h0
    exact text_of_nil w
  · exact run_convert_bytes_back (P := Try.prog) w 22 9 5 ⟨g, 0, none⟩ cap l Try.underlying22 Try.underlying5 Try.underlying9 (cells_of_row h)

end Go.Proofs.Ytjlijflfepffiaa

/-
  Worlds that differ in some blocks alone.
-/
namespace Go.Proofs.Ytjlijflfepffiaa
open Go.RowKit

/-- All blocks but these are as they were; the streams are as they were. -/
structure Kps (S : Nat → Prop) (w w' : World) : Prop where
  os : w'.os = w.os
  tape : w'.tape = w.tape
  output : w'.output = w.output
  size : w.heap.size ≤ w'.heap.size
  block : ∀ k, k < w.heap.size → ¬ S k → w'.heap[k]? = w.heap[k]?

theorem Kps.refl (S : Nat → Prop) (w : World) : Kps S w w := ⟨rfl, rfl, rfl, Nat.le_refl _, fun _ _ _ => rfl⟩
theorem Kps.trans {S : Nat → Prop} {a b c : World} (h : Kps S a b) (k : Kps S b c) : Kps S a c :=
  ⟨k.os.trans h.os, k.tape.trans h.tape, k.output.trans h.output, Nat.le_trans h.size k.size, fun i hi hs => (k.block i (Nat.lt_of_lt_of_le hi h.size) hs).trans (h.block i hi hs)⟩
theorem Kps.more {S T : Nat → Prop} {a b : World} (h : Kps S a b) (hT : ∀ k, S k → T k) : Kps T a b :=
  ⟨h.os, h.tape, h.output, h.size, fun i hi ht => h.block i hi fun s => ht (hT i s)⟩
theorem Kps.of_below {S : Nat → Prop} {a b : World} (h : Below a.heap.size a b) : Kps S a b := ⟨h.os, h.tape, h.output, h.size, fun i hi _ => h.block i hi⟩
theorem Kps.drew {S : Nat → Prop} {a b : World} (h : Kps S a b) : Kps S a b.drew := ⟨h.os, h.tape, h.output, h.size, h.block⟩
theorem Kps.setCell {S : Nat → Prop} {a b : World} (h : Kps S a b) {p : Addr} (hp : S p.block) (u : Value) : Kps S a (b.setCell p u) :=
  h.trans ⟨rfl, rfl, rfl, by simp [World.setCell], fun k _ hs => Below.heap_setCell _ _ _ _ fun e => hs (e ▸ hp)⟩
theorem Kps.bel {S : Nat → Prop} {B : Nat} {w0 w w' : World} (h : Kps S w w') (hb : Below B w0 w) (hB : B ≤ w.heap.size) (hS : ∀ k, S k → B ≤ k) : Below B w0 w' :=
  ⟨h.os.trans hb.os, h.tape.trans hb.tape, h.output.trans hb.output, Nat.le_trans hb.size h.size, fun k hk => (h.block k (by omega) fun s => by have := hS k s; omega).trans (hb.block k hk)⟩
theorem Kps.blk {S : Nat → Prop} {w w' : World} (h : Kps S w w') {g : Nat} {t : TypeId} {cs : Array Value} (hb : Blk w g t cs) (hg : ¬ S g) : Blk w' g t cs := (h.block g hb.lt hg).trans hb
theorem Kps.row {S : Nat → Prop} {w w' : World} (h : Kps S w w') {B e sz n : Nat} {v : Value} {xs : List Value} (hr : w.ownsRow B e sz v n xs) (hv : ∀ k, v.ownBlock = some k → ¬ S k) : w'.ownsRow B e sz v n xs := by
  refine ⟨hr.1, ?_⟩
  rcases hr.2 with h0 | ⟨g, cap, cur, hve, hB, hg, rest⟩
  · exact .inl h0
  · exact .inr ⟨g, cap, cur, hve, hB, (h.block g (Array.getElem?_eq_some_iff.1 hg).1 (hv g (by rw [hve]; rfl))).trans hg, rest⟩

end Go.Proofs.Ytjlijflfepffiaa
