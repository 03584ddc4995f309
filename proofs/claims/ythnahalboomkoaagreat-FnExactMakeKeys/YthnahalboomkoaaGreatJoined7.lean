/-
  Texts of one's own, joined.
-/
import Derived.Test.YthnahalboomkoaaGreatJoined5
import Derived.Test.YthnahalboomkoaaGreatJoined6

/-
  The product of two polynomials, as a list: no program in here.
-/
namespace Go.Proofs.YthnahalboomkoaaGreat

/-- So often a list put to another, from a place on. -/
def shF (p : List Int) (s : Nat) (k : Int) (b : List Int) (j : Nat) : Int := if s ≤ j ∧ j < s + b.length then scAdd (p.getD j 0) (scMul k (b.getD (j - s) 0)) else p.getD j 0
def addSh (p : List Int) (s : Nat) (k : Int) (b : List Int) : List Int := zls (shF p s k b) p.length
theorem addSh_len (p : List Int) (s : Nat) (k : Int) (b : List Int) : (addSh p s k b).length = p.length := zls_length _ _
theorem addSh_nil (p : List Int) (s : Nat) (k : Int) : addSh p s k [] = p := by
  refine (congrArg (fun f => zls f p.length) (funext fun j => ?_)).trans (zls_getD p)
  unfold shF
  rw [if_neg (by simp only [List.length_nil]; omega)]
theorem addSh_at (p : List Int) (s : Nat) (k : Int) (b : List Int) (h : s + b.length ≤ p.length) (j : Nat) : (addSh p s k b).getD j 0 = shF p s k b j := by
  by_cases hj : j < p.length
  · exact zls_at _ hj
  · rw [getD_out (by rw [addSh_len]; omega)]
    unfold shF
    rw [if_neg (by omega), getD_out (by omega)]
theorem ext_getD {a b : List Int} (hl : a.length = b.length) (h : ∀ j, a.getD j 0 = b.getD j 0) : a = b := by
  refine List.ext_getElem hl fun j p q => ?_
  have := h j
  rwa [getD_inZ p, getD_inZ q] at this
theorem take_at (b : List Int) {t j : Nat} (h : j < t) : (b.take t).getD j 0 = b.getD j 0 := by
  simp [List.getD_eq_getElem?_getD, h]
theorem set_at (l : List Int) (i j : Nat) (x : Int) (h : i < l.length) : (l.set i x).getD j 0 = if j = i then x else l.getD j 0 := by
  by_cases e : j = i
  · subst e; simp [h]
  · rw [if_neg e]
    simp [List.getD_eq_getElem?_getD, Ne.symm e]
/-- One place more. -/
theorem addSh_next (p : List Int) (s : Nat) (k : Int) (b : List Int) (h : s + b.length ≤ p.length) {t : Nat} (ht : t < b.length) :
    (addSh p s k (b.take t)).set (s + t) (scAdd (p.getD (s + t) 0) (scMul k (b.getD t 0))) = addSh p s k (b.take (t + 1)) := by
  have l1 : (b.take t).length = t := by simp; omega
  have l2 : (b.take (t + 1)).length = t + 1 := by simp; omega
  refine ext_getD (by rw [List.length_set, addSh_len, addSh_len]) fun j => ?_
  rw [set_at _ _ _ _ (by rw [addSh_len]; omega), addSh_at _ _ _ _ (by omega), addSh_at _ _ _ _ (by omega)]
  unfold shF
  rw [l1, l2]
  by_cases e : j = s + t
  · subst e
    rw [if_pos rfl, if_pos (by omega), show s + t - s = t by omega, take_at b (by omega)]
  · rw [if_neg e]
    by_cases h2 : s ≤ j ∧ j < s + t
    · rw [if_pos h2, if_pos (by omega), take_at b (by omega), take_at b (by omega)]
    · rw [if_neg h2, if_neg (by omega)]
theorem addSh_new (p : List Int) (s : Nat) (k : Int) (b : List Int) (h : s + b.length ≤ p.length) {t : Nat} (ht : t < b.length) : (addSh p s k (b.take t)).getD (s + t) 0 = p.getD (s + t) 0 := by
  have l1 : (b.take t).length = t := by simp; omega
  rw [addSh_at _ _ _ _ (by omega)]
  unfold shF
  rw [l1, if_neg (by omega)]
theorem addSh_sc {p : List Int} (s : Nat) (k : Int) {b : List Int} (h : s + b.length ≤ p.length) (hp : ∀ j, Sc (p.getD j 0)) (j : Nat) : Sc ((addSh p s k b).getD j 0) := by
  rw [addSh_at _ _ _ _ h]
  unfold shF
  split
  · exact sc_add _ _
  · exact hp j
theorem addSh_ev (x : Int) (p : List Int) (s : Nat) (k : Int) (b : List Int) (h : s + b.length ≤ p.length) : Dp (ev (addSh p s k b) x - (ev p x + x ^ s * (k * ev b x))) := by
  have h1 := ev_congr x (addSh p s k b) (addL p (List.replicate s 0 ++ b.map fun y => k * y)) fun j => ?_
  · rw [ev_addL, ev_shift, ev_map] at h1
    exact h1
  · rw [addSh_at _ _ _ _ h, addL_getD, shift_getD]
    have hm : ∀ i, (b.map fun y => k * y).getD i 0 = k * b.getD i 0 := fun i => by
      by_cases hi : i < b.length
      · simp [hi]
      · rw [getD_out (by simp; omega), getD_out (by omega), Int.mul_zero]
    rw [hm]
    unfold shF
    by_cases h1 : s ≤ j ∧ j < s + b.length
    · rw [if_pos h1, if_pos h1.1]
      exact ((dp_scAdd (p.getD j 0) (scMul k (b.getD (j - s) 0))).add (dp_scMul k (b.getD (j - s) 0))).of (by omega)
    · rw [if_neg h1]
      by_cases h2 : s ≤ j
      · rw [if_pos h2, getD_out (l := b) (by omega), Int.mul_zero]
        exact dp_zero.of (by omega)
      · rw [if_neg h2]
        exact dp_zero.of (by omega)

/-- A list for each number of another, shifted by its place. -/
def mulR (b : List Int) : List Int → Nat → List Int → List Int
  | [], _, p => p
  | k :: t, i, p => mulR b t (i + 1) (addSh p i k b)
theorem mulR_len (b : List Int) : ∀ (a : List Int) (i : Nat) (p : List Int), (mulR b a i p).length = p.length
  | [], _, _ => rfl
  | k :: t, i, p => by rw [mulR, mulR_len b t, addSh_len]
theorem mulR_nil : ∀ (a : List Int) (i : Nat) (p : List Int), mulR [] a i p = p
  | [], _, _ => rfl
  | k :: t, i, p => by rw [mulR, addSh_nil, mulR_nil t]
theorem mulR_sc (b : List Int) : ∀ (a : List Int) (i : Nat) (p : List Int), i + a.length + b.length ≤ p.length + 1 → (∀ j, Sc (p.getD j 0)) → ∀ j, Sc ((mulR b a i p).getD j 0)
  | [], _, _, _, h, j => h j
  | k :: t, i, p, h0, h, j => by
    rw [List.length_cons] at h0
    exact mulR_sc b t (i + 1) _ (by rw [addSh_len]; omega) (addSh_sc i k (by omega) h) j
theorem mulR_congr (b : List Int) : ∀ (a : List Int) (i : Nat) (p q : List Int), i + a.length + b.length ≤ p.length + 1 → i + a.length + b.length ≤ q.length + 1 → (∀ j, p.getD j 0 = q.getD j 0) → ∀ j, (mulR b a i p).getD j 0 = (mulR b a i q).getD j 0
  | [], _, _, _, _, _, h, j => h j
  | k :: t, i, p, q, h0, h1, h, j => by
    rw [List.length_cons] at h0 h1
    refine mulR_congr b t (i + 1) _ _ (by rw [addSh_len]; omega) (by rw [addSh_len]; omega) (fun j => ?_) j
    rw [addSh_at _ _ _ _ (by omega), addSh_at _ _ _ _ (by omega)]
    unfold shF
    rw [h j]
theorem mulR_ev (x : Int) (b : List Int) : ∀ (a : List Int) (i : Nat) (p : List Int), i + a.length + b.length ≤ p.length + 1 → Dp (ev (mulR b a i p) x - (ev p x + x ^ i * (ev a x * ev b x)))
  | [], i, p, _ => dp_zero.of (by show ev p x - (ev p x + x ^ i * (0 * ev b x)) = 0; grind)
  | k :: t, i, p, h0 => by
    rw [List.length_cons] at h0
    have h1 := mulR_ev x b t (i + 1) (addSh p i k b) (by rw [addSh_len]; omega)
    have h2 := addSh_ev x p i k b (by omega)
    refine (h1.add h2).of ?_
    show ev (mulR b t (i + 1) (addSh p i k b)) x - (ev p x + x ^ i * ((k + x * ev t x) * ev b x)) = _
    rw [Int.pow_succ]
    grind
theorem rep_at (n j : Nat) : (List.replicate n (0 : Int)).getD j 0 = 0 := by
  by_cases h : j < n
  · simp [h]
  · exact getD_out (by simp; omega)
theorem ev_rep (x : Int) (n : Nat) : ev (List.replicate n 0) x = 0 := by
  have := ev_shift x [] n
  rw [List.append_nil] at this
  rw [this]
  show x ^ n * 0 = 0
  exact Int.mul_zero _
theorem trim_rep (n : Nat) : trimZ (List.replicate n 0) = [] := List.length_eq_zero_iff.1 (by have := trim_len_lt (l := List.replicate n (0 : Int)) (n := 0) fun j _ => rep_at n j; omega)
def qMul (a b : List Int) : List Int := if 64 < a.length ∨ 64 < b.length then [] else trimZ (mulR b a 0 (List.replicate (a.length + b.length) 0))
theorem qMul_short (a b : List Int) (ha : 0 < a.length ∧ a.length ≤ 64) (hb : 0 < b.length ∧ b.length ≤ 64) : pTrim (mulR b a 0 (List.replicate (a.length + b.length - 1) 0)) = qMul a b := by
  unfold qMul
  rw [if_neg (by omega)]
  have h1 := mulR_sc b a 0 (List.replicate (a.length + b.length) 0) (by simp) (fun j => by rw [rep_at]; exact sc_zero)
  refine can_eq (pTrim_can _) (Can.of_trim _ h1) fun j => ?_
  rw [pTrim_at, trimZ_at, mulR_congr b a 0 (List.replicate (a.length + b.length - 1) 0) (List.replicate (a.length + b.length) 0) (by simp; omega) (by simp) (fun j => by rw [rep_at, rep_at]) j]
  exact dp_sca _
theorem qMul_left (b : List Int) : qMul [] b = [] := by
  unfold qMul
  split
  · rfl
  · exact trim_rep _
theorem qMul_right (a : List Int) : qMul a [] = [] := by
  unfold qMul
  split
  · rfl
  · rw [mulR_nil]; exact trim_rep _
theorem qMul_can (a b : List Int) : Can (qMul a b) := by
  unfold qMul
  split
  · exact ⟨fun j => by rw [getD_nil]; exact sc_zero, rfl⟩
  · exact Can.of_trim _ (mulR_sc b a 0 _ (by simp) (fun j => by rw [rep_at]; exact sc_zero))
theorem trimZ_ev (x : Int) (l : List Int) : Dp (ev (trimZ l) x - ev l x) := ev_congr x _ _ fun j => by rw [trimZ_at]; exact dp_zero.of (by omega)
theorem pTrim_ev (x : Int) (l : List Int) : Dp (ev (pTrim l) x - ev l x) := ev_congr x _ _ fun j => by rw [pTrim_at]; exact dp_sca _
theorem qMul_ev (x : Int) (a b : List Int) (ha : a.length ≤ 64) (hb : b.length ≤ 64) : Dp (ev (qMul a b) x - ev a x * ev b x) := by
  unfold qMul
  rw [if_neg (by omega)]
  have h1 := mulR_ev x b a 0 (List.replicate (a.length + b.length) 0) (by simp)
  rw [ev_rep] at h1
  exact ((trimZ_ev x (mulR b a 0 (List.replicate (a.length + b.length) 0))).add h1).of (by simp; grind)
/-- One that both have numbers for is as long as both, but for one. -/
theorem qMul_len2 (a b : List Int) (n : Nat) (h : a.length + b.length ≤ n + 1) : (qMul a b).length ≤ n := by
  by_cases ha : a = []
  · subst ha; rw [qMul_left]; exact Nat.zero_le _
  · by_cases hb : b = []
    · subst hb; rw [qMul_right]; exact Nat.zero_le _
    · have h1 := List.length_pos_iff.2 ha
      have h2 := List.length_pos_iff.2 hb
      by_cases hl : 64 < a.length ∨ 64 < b.length
      · unfold qMul
        rw [if_pos hl]
        exact Nat.zero_le _
      · rw [← qMul_short a b (by omega) (by omega)]
        refine Nat.le_trans (pTrim_len _) ?_
        rw [mulR_len, List.length_replicate]
        omega
theorem qMul_len (a b : List Int) : (qMul a b).length ≤ 1048576 := by
  by_cases hl : 64 < a.length ∨ 64 < b.length
  · unfold qMul
    rw [if_pos hl]
    exact Nat.zero_le _
  · exact qMul_len2 a b _ (by omega)
theorem qMul_128 (a b : List Int) : (qMul a b).length ≤ 127 := by
  by_cases hl : 64 < a.length ∨ 64 < b.length
  · unfold qMul
    rw [if_pos hl]
    exact Nat.zero_le _
  · exact qMul_len2 a b _ (by omega)

theorem qAdd_can (a b : List Int) : Can (qAdd a b) := pTrim_can _
theorem qAdd_ev (x : Int) (a b : List Int) : Dp (ev (qAdd a b) x - (ev a x + ev b x)) := by
  have h1 := ev_congr x (qAdd a b) (addL a b) fun j => ?_
  · rw [ev_addL] at h1
    exact h1
  · have hz : (zls (padF a b) (max a.length b.length)).getD j 0 = padF a b j := by
      by_cases hj : j < max a.length b.length
      · exact zls_at _ hj
      · rw [getD_out (by rw [zls_length]; omega)]
        unfold padF
        rw [if_neg (by omega), if_neg (by omega)]
    rw [addL_getD, show qAdd a b = pTrim (zls (padF a b) (max a.length b.length)) from rfl, pTrim_at, hz]
    refine ((dp_sca (padF a b j)).add (?_ : Dp (padF a b j - (a.getD j 0 + b.getD j 0)))).of (by omega)
    unfold padF
    by_cases hb : j < b.length <;> by_cases ha : j < a.length
    · rw [if_pos hb, if_pos ha]
      exact ((dp_scAdd (scAdd 0 (a.getD j 0)) (b.getD j 0)).add (dp_scAdd 0 (a.getD j 0))).of (by omega)
    · rw [if_pos hb, if_neg ha, getD_out (l := a) (by omega)]
      exact (dp_scAdd 0 (b.getD j 0)).of (by omega)
    · rw [if_neg hb, if_pos ha, getD_out (l := b) (by omega)]
      exact (dp_scAdd 0 (a.getD j 0)).of (by omega)
    · rw [if_neg hb, if_neg ha, getD_out (l := a) (by omega), getD_out (l := b) (by omega)]
      exact dp_zero.of (by omega)

end Go.Proofs.YthnahalboomkoaaGreat

/-
  The polynomial that is 0 at the first places: no program in here.
-/
namespace Go.Proofs.YthnahalboomkoaaGreat
open Go.RowKit

/-- It is 0 at 1 to k. -/
def zerL : Nat → List Int
  | 0 => [1]
  | k + 1 => qMul (zerL k) [-((k : Int) + 1), 1]
def pZer (n : Int) : List Int := if n < 0 ∨ n > 16 then [] else zerL n.toNat
theorem pZer_nat {k : Nat} (h : k ≤ 16) : pZer (k : Int) = zerL k := by
  unfold pZer
  rw [if_neg (by omega), Int.toNat_natCast]
theorem zerL_small : ∀ k, (zerL k).length ≤ k + 1
  | 0 => Nat.le_refl _
  | k + 1 => qMul_len2 _ _ _ (by have := zerL_small k; simp; omega)
theorem zerL_127 (k : Nat) : (zerL k).length ≤ 127 := by
  cases k with
  | zero => decide
  | succ k => exact qMul_128 _ _
theorem zerL_len (k : Nat) : (zerL k).length ≤ 1048576 := Nat.le_trans (zerL_127 k) (by decide)
theorem pZer_len (n : Int) : (pZer n).length ≤ 1048576 := by
  unfold pZer
  split
  · exact Nat.zero_le _
  · exact zerL_len _
/-- Its value. -/
def zerE : Nat → Int → Int
  | 0, _ => 1
  | k + 1, x => zerE k x * (x - ((k : Int) + 1))
theorem zerL_ev (x : Int) : ∀ k, k ≤ 16 → Dp (ev (zerL k) x - zerE k x)
  | 0, _ => dp_zero.of (by show 1 + x * 0 - 1 = 0; omega)
  | k + 1, h => by
    have h1 := zerL_ev x k (by omega)
    have h2 := qMul_ev x (zerL k) [-((k : Int) + 1), 1] (by have := zerL_small k; omega) (by simp)
    refine (h2.add (h1.mul (x - ((k : Int) + 1)))).of ?_
    show ev (qMul (zerL k) [-((k : Int) + 1), 1]) x - zerE k x * (x - ((k : Int) + 1)) = _
    have e : ev [-((k : Int) + 1), 1] x = x - ((k : Int) + 1) := by
      show -((k : Int) + 1) + x * (1 + x * 0) = _
      grind
    rw [e]
    grind
/-- At one of its places. -/
theorem zerE_zero : ∀ (k i : Nat), i < k → zerE k ((i : Int) + 1) = 0
  | 0, i, h => by omega
  | k + 1, i, h => by
    show zerE k ((i : Int) + 1) * ((i : Int) + 1 - ((k : Int) + 1)) = 0
    by_cases hi : i = k
    · subst hi
      rw [show (i : Int) + 1 - ((i : Int) + 1) = 0 by omega, Int.mul_zero]
    · rw [zerE_zero k i (by omega), Int.zero_mul]
/-- At the place behind them. -/
theorem zerE_next : ∀ (k s : Nat), k + s ≤ 1000 → 0 < s → ¬ Dp (zerE k ((k : Int) + s))
  | 0, s, _, _ => by
    intro h
    have : (1009 : Int) ∣ 1 := h
    omega
  | k + 1, s, h, hs => by
    intro hd
    have e : zerE (k + 1) (((k + 1 : Nat) : Int) + s) = ((s : Nat) : Int) * zerE k ((k : Int) + ((s + 1 : Nat) : Int)) := by
      show zerE k (((k + 1 : Nat) : Int) + s) * (((k + 1 : Nat) : Int) + s - ((k : Int) + 1)) = _
      rw [show ((k + 1 : Nat) : Int) + s = (k : Int) + ((s + 1 : Nat) : Int) by omega, show (k : Int) + ((s + 1 : Nat) : Int) - ((k : Int) + 1) = (s : Int) by omega, Int.mul_comm]
    rw [e] at hd
    exact zerE_next k (s + 1) (by omega) (by omega) (dp_prime hs (by omega) hd)
/-- What a literal makes. -/
theorem own_lit (w : World) (l : List Int) (hl : l.length ≤ 64) : RowZs w.heap.size (w.alloc (.cells (zsV l).toArray 3)) (.slice (some ⟨w.heap.size, 0, none⟩) l.length l.length) l := by
  refine ⟨by simp [zsV], .inr ⟨w.heap.size, l.length, (zsV l).toArray, rfl, Nat.le_refl _, heap_alloc_new w _, Nat.le_refl _, by unfold maxLen; omega, by simp [zsV], ?_⟩⟩
  rw [Nat.mul_one, List.take_of_length_le (by simp [zsV])]

end Go.Proofs.YthnahalboomkoaaGreat

/-
  The polynomial through given values: two ways to it, one polynomial. No program in here.
-/
namespace Go.Proofs.YthnahalboomkoaaGreat

/-- What is put to it at the place k + 1. -/
def thrF (ys p : List Int) (k : Nat) : Int := scMul (scAdd (ys.getD k 0) (scNeg (pAt p ((k : Int) + 1)))) (scInv (pAt (zerL k) ((k : Int) + 1)))
def thrL (ys : List Int) : Nat → List Int
  | 0 => []
  | k + 1 => qAdd (thrL ys k) (qMul [thrF ys (thrL ys k) k] (zerL k))
def pThr (ys : List Int) : List Int := if 16 < ys.length then [] else thrL ys ys.length
theorem thrL_small (ys : List Int) : ∀ k, (thrL ys k).length ≤ k
  | 0 => Nat.le_refl _
  | k + 1 => by
    have h1 := thrL_small ys k
    have h2 := qMul_len2 [thrF ys (thrL ys k) k] (zerL k) (k + 1) (by have := zerL_small k; simp; omega)
    have h3 := qAdd_len (thrL ys k) (qMul [thrF ys (thrL ys k) k] (zerL k))
    show (qAdd _ _).length ≤ _
    omega
theorem thrL_can (ys : List Int) : ∀ k, Can (thrL ys k)
  | 0 => ⟨fun j => by rw [show thrL ys 0 = [] from rfl, getD_nil]; exact sc_zero, rfl⟩
  | _ + 1 => qAdd_can _ _
theorem pThr_len (a : List Int) : (pThr a).length ≤ 1048576 := by
  unfold pThr
  split
  · exact Nat.zero_le _
  · have := thrL_small a a.length
    omega
theorem dp_pAt (l : List Int) (x : Int) : Dp (pAt l x - ev l x) := by rw [pAt_ev]; exact dp_sca _
/-- A number and what makes 1 of it. -/
theorem dp_inv {a : Int} (h : ¬ Dp a) : Dp (a * scInv a - 1) := by
  have h1 : sca a ≠ 0 := fun e => h ((dp_of_sca (b := 0) e).of (by omega))
  have h2 := scMul_inv (a := sca a) (by have := sca_nonneg a; omega) (sca_lt a)
  have e : scInv (sca a) = scInv a := by unfold scInv scn; rw [sca_sca]
  rw [e] at h2
  have h3 := dp_scMul (sca a) (scInv a)
  rw [h2] at h3
  exact (((dp_sca a).mul (scInv a)).add h3).neg.of (by grind)
/-- It has the values that it should. -/
theorem thrL_ev (ys : List Int) : ∀ k, k ≤ 16 → ∀ i, i < k → Dp (ev (thrL ys k) ((i : Int) + 1) - ys.getD i 0)
  | 0, _, i, h => by omega
  | k + 1, hk, i, hi => by
    have h1 := qAdd_ev ((i : Int) + 1) (thrL ys k) (qMul [thrF ys (thrL ys k) k] (zerL k))
    have h2 := qMul_ev ((i : Int) + 1) [thrF ys (thrL ys k) k] (zerL k) (by simp) (by have := zerL_small k; omega)
    have h3 := zerL_ev ((i : Int) + 1) k (by omega)
    have e1 : ev [thrF ys (thrL ys k) k] ((i : Int) + 1) = thrF ys (thrL ys k) k := by
      show thrF ys (thrL ys k) k + ((i : Int) + 1) * 0 = _
      omega
    rw [e1] at h2
    show Dp (ev (qAdd (thrL ys k) (qMul [thrF ys (thrL ys k) k] (zerL k))) ((i : Int) + 1) - ys.getD i 0)
    by_cases e : i = k
    · subst e
      have hz : ¬ Dp (ev (zerL i) ((i : Int) + 1)) := fun hd => zerE_next i 1 (by omega) (by decide) ((hd.sub h3).of (by show zerE i ((i : Int) + 1) = _; omega))
      have hz2 : ¬ Dp (pAt (zerL i) ((i : Int) + 1)) := fun hd => hz ((hd.sub (dp_pAt (zerL i) ((i : Int) + 1))).of (by omega))
      have h4 := dp_inv hz2
      have h5 := dp_pAt (zerL i) ((i : Int) + 1)
      have h6 := dp_pAt (thrL ys i) ((i : Int) + 1)
      have h7 := dp_scMul (scAdd (ys.getD i 0) (scNeg (pAt (thrL ys i) ((i : Int) + 1)))) (scInv (pAt (zerL i) ((i : Int) + 1)))
      have h8 := dp_scAdd (ys.getD i 0) (scNeg (pAt (thrL ys i) ((i : Int) + 1)))
      have h9 := dp_scNeg (pAt (thrL ys i) ((i : Int) + 1))
      have hF : thrF ys (thrL ys i) i = scMul (scAdd (ys.getD i 0) (scNeg (pAt (thrL ys i) ((i : Int) + 1)))) (scInv (pAt (zerL i) ((i : Int) + 1))) := rfl
      rw [← hF] at h7
      generalize thrF ys (thrL ys i) i = F at *
      generalize ev (qAdd (thrL ys i) (qMul [F] (zerL i))) ((i : Int) + 1) = E at *
      generalize ev (qMul [F] (zerL i)) ((i : Int) + 1) = M at *
      generalize scAdd (ys.getD i 0) (scNeg (pAt (thrL ys i) ((i : Int) + 1))) = D at *
      generalize scNeg (pAt (thrL ys i) ((i : Int) + 1)) = N at *
      generalize scInv (pAt (zerL i) ((i : Int) + 1)) = V at *
      generalize pAt (zerL i) ((i : Int) + 1) = Z at *
      generalize ev (zerL i) ((i : Int) + 1) = Z' at *
      generalize pAt (thrL ys i) ((i : Int) + 1) = T at *
      generalize ev (thrL ys i) ((i : Int) + 1) = T' at *
      generalize ys.getD i 0 = Y at *
      clear h3 hz hz2 hF e1
      exact (((((h1.add h2).sub (h5.mul F)).add (h7.mul Z)).add (h4.mul D)).add ((h8.add h9).sub h6)).of (by grind)
    · have h4 := thrL_ev ys k (by omega) i (by omega)
      rw [zerE_zero k i (by omega)] at h3
      exact (((h1.add h2).add (h3.mul (thrF ys (thrL ys k) k))).add h4).of (by grind)

/-- The other way: one for each value, 0 at all places but its own. -/
def oneL (i : Nat) : Nat → List Int
  | 0 => [1]
  | k + 1 => if k = i then oneL i k else qMul (oneL i k) [-((k : Int) + 1), 1]
def lowL (i : Nat) : Nat → Int
  | 0 => 1
  | k + 1 => if k = i then lowL i k else scMul (lowL i k) ((i : Int) - (k : Int))
def scl (l : List Int) (c : Int) : List Int := l.map fun y => scMul y c
def lagL (ys : List Int) (n : Nat) : Nat → List Int
  | 0 => []
  | i + 1 => qAdd (lagL ys n i) (scl (oneL i n) (scMul (ys.getD i 0) (scInv (lowL i n))))
/-- The values, unbounded. -/
def oneE (i : Nat) (x : Int) : Nat → Int
  | 0 => 1
  | k + 1 => if k = i then oneE i x k else oneE i x k * (x - ((k : Int) + 1))
theorem oneL_small (i : Nat) : ∀ k, (oneL i k).length ≤ (if i < k then k else k + 1)
  | 0 => by simp [oneL]
  | k + 1 => by
    have h := oneL_small i k
    unfold oneL
    by_cases e : k = i
    · rw [if_pos e, if_pos (by omega)]
      split at h <;> omega
    · rw [if_neg e]
      have h2 := qMul_len2 (oneL i k) [-((k : Int) + 1), 1] ((if i < k then k else k + 1) + 1) (by simp; omega)
      split at h2 <;> split <;> omega
theorem oneL_127 (i : Nat) : ∀ k, (oneL i k).length ≤ 127
  | 0 => by simp [oneL]
  | k + 1 => by
    unfold oneL
    split
    · exact oneL_127 i k
    · exact qMul_128 _ _
theorem oneL_ev (i : Nat) (x : Int) : ∀ k, k ≤ 16 → Dp (ev (oneL i k) x - oneE i x k)
  | 0, _ => dp_zero.of (by show 1 + x * 0 - 1 = 0; omega)
  | k + 1, h => by
    have h1 := oneL_ev i x k (by omega)
    unfold oneL oneE
    by_cases e : k = i
    · rw [if_pos e, if_pos e]; exact h1
    · rw [if_neg e, if_neg e]
      have h2 := qMul_ev x (oneL i k) [-((k : Int) + 1), 1] (by have := oneL_small i k; split at this <;> omega) (by simp)
      have e2 : ev [-((k : Int) + 1), 1] x = x - ((k : Int) + 1) := by
        show -((k : Int) + 1) + x * (1 + x * 0) = _
        grind
      rw [e2] at h2
      exact (h2.add (h1.mul (x - ((k : Int) + 1)))).of (by grind)
theorem oneE_zero (i j : Nat) (hij : j ≠ i) : ∀ k, j < k → oneE i ((j : Int) + 1) k = 0
  | 0, h => by omega
  | k + 1, h => by
    unfold oneE
    by_cases e : k = i
    · rw [if_pos e]; exact oneE_zero i j hij k (by omega)
    · rw [if_neg e]
      by_cases hk : j = k
      · subst hk
        rw [show (j : Int) + 1 - ((j : Int) + 1) = 0 by omega, Int.mul_zero]
      · rw [oneE_zero i j hij k (by omega), Int.zero_mul]
theorem lowL_ev (i : Nat) : ∀ k, Dp (lowL i k - oneE i ((i : Int) + 1) k)
  | 0 => dp_zero.of (by show (1 : Int) - 1 = 0; omega)
  | k + 1 => by
    unfold lowL oneE
    by_cases e : k = i
    · rw [if_pos e, if_pos e]; exact lowL_ev i k
    · rw [if_neg e, if_neg e]
      have h1 := lowL_ev i k
      have h2 := dp_scMul (lowL i k) ((i : Int) - (k : Int))
      exact (h2.add (h1.mul ((i : Int) - (k : Int)))).of (by grind)
theorem lowL_some (i : Nat) (hi : i ≤ 500) : ∀ k, k ≤ 500 → ¬ Dp (oneE i ((i : Int) + 1) k)
  | 0, _ => by
    intro h
    have : (1009 : Int) ∣ 1 := h
    omega
  | k + 1, hk => by
    unfold oneE
    by_cases e : k = i
    · rw [if_pos e]; exact lowL_some i hi k (by omega)
    · rw [if_neg e]
      intro h
      refine lowL_some i hi k (by omega) ?_
      rcases Nat.lt_or_ge k i with h1 | h1
      · refine dp_prime (d := i - k) (by omega) (by omega) (h.of ?_)
        rw [show ((i - k : Nat) : Int) = (i : Int) + 1 - ((k : Int) + 1) by omega, Int.mul_comm]
      · refine dp_prime (d := k - i) (by omega) (by omega) (h.neg.of ?_)
        rw [show ((k - i : Nat) : Int) = -((i : Int) + 1 - ((k : Int) + 1)) by omega]
        grind
theorem scl_ev (x c : Int) (l : List Int) : Dp (ev (scl l c) x - c * ev l x) := by
  rw [← ev_map]
  refine ev_congr x _ _ fun j => ?_
  unfold scl
  by_cases h : j < l.length
  · simp only [List.getD_eq_getElem?_getD, List.getElem?_map, List.getElem?_eq_getElem h, Option.map_some, Option.getD_some]
    exact (dp_scMul l[j] c).of (by grind)
  · rw [getD_out (by simp; omega), getD_out (by simp; omega)]
    exact dp_zero
theorem scl_len (l : List Int) (c : Int) : (scl l c).length = l.length := by simp [scl]
theorem lagL_small (ys : List Int) (n : Nat) : ∀ i, i ≤ n → (lagL ys n i).length ≤ n
  | 0, _ => Nat.zero_le _
  | i + 1, h => by
    have h1 := lagL_small ys n i (by omega)
    have h2 := qAdd_len (lagL ys n i) (scl (oneL i n) (scMul (ys.getD i 0) (scInv (lowL i n))))
    rw [scl_len] at h2
    have h3 := oneL_small i n
    rw [if_pos (by omega)] at h3
    show (qAdd _ _).length ≤ _
    omega
theorem lagL_can (ys : List Int) (n : Nat) : ∀ k, Can (lagL ys n k)
  | 0 => ⟨fun j => by rw [show lagL ys n 0 = [] from rfl, getD_nil]; exact sc_zero, rfl⟩
  | _ + 1 => qAdd_can _ _
theorem lagL_ev (ys : List Int) (n : Nat) (hn : n ≤ 16) : ∀ i, i ≤ n → ∀ j, j < n → Dp (ev (lagL ys n i) ((j : Int) + 1) - (if j < i then ys.getD j 0 else 0))
  | 0, _, j, hj => dp_zero.of (by rw [if_neg (by omega)]; rfl)
  | i + 1, hi, j, hj => by
    have h0 := lagL_ev ys n hn i (by omega) j hj
    have h1 := qAdd_ev ((j : Int) + 1) (lagL ys n i) (scl (oneL i n) (scMul (ys.getD i 0) (scInv (lowL i n))))
    have h2 := scl_ev ((j : Int) + 1) (scMul (ys.getD i 0) (scInv (lowL i n))) (oneL i n)
    have h3 := oneL_ev i ((j : Int) + 1) n hn
    show Dp (ev (qAdd (lagL ys n i) (scl (oneL i n) (scMul (ys.getD i 0) (scInv (lowL i n))))) ((j : Int) + 1) - _)
    by_cases e : j = i
    · subst e
      rw [if_neg (by omega)] at h0
      rw [if_pos (by omega)]
      have h4 := lowL_ev j n
      have h5 := lowL_some j (by omega) n (by omega)
      have h6 := dp_inv (a := lowL j n) (fun hd => h5 ((hd.sub h4).of (by omega)))
      have h7 := dp_scMul (ys.getD j 0) (scInv (lowL j n))
      generalize scMul (ys.getD j 0) (scInv (lowL j n)) = C at *
      generalize ev (qAdd (lagL ys n j) (scl (oneL j n) C)) ((j : Int) + 1) = E at *
      generalize ev (scl (oneL j n) C) ((j : Int) + 1) = S at *
      generalize ev (lagL ys n j) ((j : Int) + 1) = G at *
      generalize scInv (lowL j n) = V at *
      generalize lowL j n = W at *
      generalize ev (oneL j n) ((j : Int) + 1) = O at *
      generalize oneE j ((j : Int) + 1) n = O' at *
      generalize ys.getD j 0 = Y at *
      clear h5
      exact (((((h1.add h2).add h0).add ((h3.sub h4).mul C)).add (h7.mul W)).add (h6.mul Y)).of (by grind)
    · rw [oneE_zero i j e n (by omega)] at h3
      have e2 : (if j < i + 1 then ys.getD j 0 else 0) = (if j < i then ys.getD j 0 else 0) := by
        by_cases h : j < i
        · rw [if_pos h, if_pos (by omega)]
        · rw [if_neg h, if_neg (by omega)]
      rw [e2]
      exact (((h1.add h2).add (h3.mul (scMul (ys.getD i 0) (scInv (lowL i n))))).add h0).of (by grind)
theorem thr_lag (ys : List Int) (h : ys.length ≤ 16) : lagL ys ys.length ys.length = pThr ys := by
  unfold pThr
  rw [if_neg (by omega)]
  refine made_out (lagL_can ys _ _) (thrL_can ys _) ys.length (by omega) (lagL_small ys _ _ (Nat.le_refl _)) (thrL_small ys _) fun i hi => ?_
  have h1 := lagL_ev ys ys.length h ys.length (Nat.le_refl _) i hi
  rw [if_pos hi] at h1
  have h2 := thrL_ev ys ys.length h i hi
  rw [show ((1 + i : Nat) : Int) = (i : Int) + 1 by omega]
  exact (h1.sub h2).of (by omega)

end Go.Proofs.YthnahalboomkoaaGreat

/-
  The division of polynomials, as lists: no program in here.
-/
namespace Go.Proofs.YthnahalboomkoaaGreat

/-- i numbers of the quotient are left to make; d has d.length - 1 = t numbers below its last; c: what makes 1 of its last. -/
def dvK (t : Nat) (c : Int) (p : List Int) (i : Nat) : Int := scMul (p.getD (i + t) 0) c
def dv (d : List Int) (t : Nat) (c : Int) : Nat → List Int → List Int × List Int
  | 0, p => ([], p)
  | i + 1, p => ((dv d t c i (addSh p i (scNeg (dvK t c p i)) d)).1 ++ [dvK t c p i], (dv d t c i (addSh p i (scNeg (dvK t c p i)) d)).2)
theorem dv_len1 (d : List Int) (t : Nat) (c : Int) : ∀ (i : Nat) (p : List Int), (dv d t c i p).1.length = i
  | 0, _ => rfl
  | i + 1, p => by
    show (_ ++ [_]).length = _
    rw [List.length_append, dv_len1 d t c i]
    rfl
theorem dv_len2 (d : List Int) (t : Nat) (c : Int) : ∀ (i : Nat) (p : List Int), (dv d t c i p).2.length = p.length
  | 0, _ => rfl
  | i + 1, p => by
    show (dv d t c i _).2.length = _
    rw [dv_len2 d t c i, addSh_len]
theorem dv_sc1 (d : List Int) (t : Nat) (c : Int) : ∀ (i : Nat) (p : List Int) (j : Nat), Sc ((dv d t c i p).1.getD j 0)
  | 0, _, j => by show Sc (([] : List Int).getD j 0); rw [getD_nil]; exact sc_zero
  | i + 1, p, j => by
    show Sc ((_ ++ [_]).getD j 0)
    rcases Nat.lt_trichotomy j i with h | h | h
    · rw [List.getD_eq_getElem?_getD, List.getElem?_append_left (by rw [dv_len1]; exact h), ← List.getD_eq_getElem?_getD]
      exact dv_sc1 d t c i _ j
    · subst h
      rw [List.getD_eq_getElem?_getD, List.getElem?_append_right (by rw [dv_len1]; omega), dv_len1]
      simp
      exact sc_mul _ _
    · rw [getD_out (by rw [List.length_append, dv_len1]; simp; omega)]
      exact sc_zero
theorem dv_sc2 (d : List Int) (t : Nat) (c : Int) (ht : d.length = t + 1) : ∀ (i : Nat) (p : List Int), i + t ≤ p.length → (∀ j, Sc (p.getD j 0)) → ∀ j, Sc ((dv d t c i p).2.getD j 0)
  | 0, _, _, h, j => h j
  | i + 1, p, hp, h, j => dv_sc2 d t c ht i _ (by rw [addSh_len]; omega) (addSh_sc i _ (by omega) h) j
theorem ev_app (x : Int) : ∀ (l : List Int) (k : Int), ev (l ++ [k]) x = ev l x + x ^ l.length * k
  | [], k => by show k + x * 0 = 0 + x ^ 0 * k; simp
  | a :: t, k => by
    show a + x * ev (t ++ [k]) x = a + x * ev t x + x ^ (t.length + 1) * k
    rw [ev_app x t k, Int.pow_succ]
    grind
/-- What is divided is made up again. -/
theorem dv_ev (x : Int) (d : List Int) (t : Nat) (c : Int) (ht : d.length = t + 1) : ∀ (i : Nat) (p : List Int), i + t ≤ p.length → Dp (ev p x - (ev (dv d t c i p).1 x * ev d x + ev (dv d t c i p).2 x))
  | 0, p, _ => dp_zero.of (by show ev p x - (0 * ev d x + ev p x) = 0; grind)
  | i + 1, p, hp => by
    have h1 := dv_ev x d t c ht i (addSh p i (scNeg (dvK t c p i)) d) (by rw [addSh_len]; omega)
    have h2 := addSh_ev x p i (scNeg (dvK t c p i)) d (by omega)
    have h3 := dp_scNeg (dvK t c p i)
    show Dp (ev p x - (ev ((dv d t c i (addSh p i (scNeg (dvK t c p i)) d)).1 ++ [dvK t c p i]) x * ev d x + ev (dv d t c i (addSh p i (scNeg (dvK t c p i)) d)).2 x))
    have h4 := ev_app x (dv d t c i (addSh p i (scNeg (dvK t c p i)) d)).1 (dvK t c p i)
    rw [dv_len1] at h4
    rw [h4]
    generalize ev (dv d t c i (addSh p i (scNeg (dvK t c p i)) d)).1 x = Q at *
    generalize ev (dv d t c i (addSh p i (scNeg (dvK t c p i)) d)).2 x = R at *
    generalize ev (addSh p i (scNeg (dvK t c p i)) d) x = P' at *
    generalize scNeg (dvK t c p i) = N at *
    generalize dvK t c p i = K at *
    exact ((h1.sub h2).sub ((h3.mul (x ^ i)).mul (ev d x))).of (by grind)
/-- What is left is shorter. -/
theorem dv_low (d : List Int) (t : Nat) (c : Int) (ht : d.length = t + 1) (hc : Dp (c * d.getD t 0 - 1)) : ∀ (i : Nat) (p : List Int), i + t ≤ p.length → (∀ j, Sc (p.getD j 0)) → (∀ j, i + t ≤ j → p.getD j 0 = 0) → ∀ j, t ≤ j → (dv d t c i p).2.getD j 0 = 0
  | 0, p, _, _, h, j, hj => h j (by omega)
  | i + 1, p, hp, hs, h, j, hj => by
    refine dv_low d t c ht hc i (addSh p i (scNeg (dvK t c p i)) d) (by rw [addSh_len]; omega) (addSh_sc i _ (by omega) hs) (fun j hj => ?_) j hj
    by_cases e : j = i + t
    · subst e
      have h1 := addSh_sc i (scNeg (dvK t c p i)) (b := d) (p := p) (by omega) hs (i + t)
      refine dp_small (?_ : Dp _) h1 sc_zero
      rw [addSh_at _ _ _ _ (by omega)]
      unfold shF
      rw [if_pos (by omega), show i + t - i = t by omega]
      have h2 := dp_scAdd (p.getD (i + t) 0) (scMul (scNeg (dvK t c p i)) (d.getD t 0))
      have h3 := dp_scMul (scNeg (dvK t c p i)) (d.getD t 0)
      have h4 := dp_scNeg (dvK t c p i)
      have h5 : Dp (dvK t c p i - p.getD (i + t) 0 * c) := dp_scMul _ _
      generalize dvK t c p i = K at *
      generalize scAdd (p.getD (i + t) 0) (scMul (scNeg K) (d.getD t 0)) = A at *
      generalize scMul (scNeg K) (d.getD t 0) = M at *
      generalize scNeg K = N at *
      generalize p.getD (i + t) 0 = Y at *
      generalize d.getD t 0 = D at *
      exact ((((h2.add h3).add (h4.mul D)).sub (h5.mul D)).sub (hc.mul Y)).of (by grind)
    · rw [addSh_at _ _ _ _ (by omega)]
      unfold shF
      rw [if_neg (by omega), h j (by omega)]

/-- The last number of a list, and what makes 1 of it. -/
def dvC (d : List Int) : Int := scInv (d.getD (d.length - 1) 0)
def dvN (l d : List Int) : Nat := l.length - (d.length - 1)
def pQuo (a b : List Int) : List Int := if 64 < a.length ∨ 64 < b.length ∨ (pTrim b).length = 0 ∨ (pTrim a).length < (pTrim b).length then [] else (dv (pTrim b) ((pTrim b).length - 1) (dvC (pTrim b)) (dvN (pTrim a) (pTrim b)) (pTrim a)).1
def pRem (a b : List Int) : List Int := if 64 < a.length ∨ 64 < b.length then [] else if (pTrim b).length = 0 ∨ (pTrim a).length < (pTrim b).length then pTrim a else trimZ (dv (pTrim b) ((pTrim b).length - 1) (dvC (pTrim b)) (dvN (pTrim a) (pTrim b)) (pTrim a)).2
theorem pQuo_64 (a b : List Int) : (pQuo a b).length ≤ 64 := by
  unfold pQuo
  split
  · exact Nat.zero_le _
  · rw [dv_len1]
    unfold dvN
    have := pTrim_len a
    omega
theorem pRem_64 (a b : List Int) : (pRem a b).length ≤ 64 := by
  unfold pRem
  split
  · exact Nat.zero_le _
  · have h0 := pTrim_len a
    split
    · omega
    · have h1 := trimZ_len (dv (pTrim b) ((pTrim b).length - 1) (dvC (pTrim b)) (dvN (pTrim a) (pTrim b)) (pTrim a)).2
      rw [dv_len2] at h1
      omega
theorem pQuo_len (a b : List Int) : (pQuo a b).length ≤ 1048576 := Nat.le_trans (pQuo_64 a b) (by decide)
theorem pRem_len (a b : List Int) : (pRem a b).length ≤ 1048576 := Nat.le_trans (pRem_64 a b) (by decide)
theorem Can.last {l : List Int} (h : Can l) (h0 : 0 < l.length) : ¬ Dp (l.getD (l.length - 1) 0) := fun hd => trim_last h.2 h0 (dp_small (b := 0) (hd.of (by omega)) (h.1 _) sc_zero)
/-- The quotient has no 0 at its end. -/
theorem dv_can (p d : List Int) (hp : Can p) (hd : Can d) (h0 : 0 < d.length) (h1 : d.length ≤ p.length) : Can (dv d (d.length - 1) (dvC d) (dvN p d) p).1 := by
  refine ⟨dv_sc1 _ _ _ _ _, ?_⟩
  obtain ⟨i, hi⟩ : ∃ i, dvN p d = i + 1 := ⟨p.length - d.length, by unfold dvN; omega⟩
  rw [hi]
  show trimZ (_ ++ [_]) = _ ++ [_]
  refine trimZ_some _ ?_
  intro e
  have hlast := hp.last (by omega)
  have hi2 : i + (d.length - 1) = p.length - 1 := by unfold dvN at hi; omega
  unfold dvK at e
  rw [hi2] at e
  have h2 := dp_scMul (p.getD (p.length - 1) 0) (dvC d)
  rw [e] at h2
  have h3 := dp_inv (hd.last h0)
  refine hlast ((((h2.mul (d.getD (d.length - 1) 0)).add (h3.mul (p.getD (p.length - 1) 0))).neg).of ?_)
  show _ = -((0 - p.getD (p.length - 1) 0 * scInv (d.getD (d.length - 1) 0)) * d.getD (d.length - 1) 0 + (d.getD (d.length - 1) 0 * scInv (d.getD (d.length - 1) 0) - 1) * p.getD (p.length - 1) 0)
  grind
theorem pQuo_can (a b : List Int) : Can (pQuo a b) := by
  unfold pQuo
  split
  · exact ⟨fun j => by rw [getD_nil]; exact sc_zero, rfl⟩
  · exact dv_can _ _ (pTrim_can _) (pTrim_can _) (by omega) (by omega)
theorem pRem_can (a b : List Int) : Can (pRem a b) := by
  unfold pRem
  split
  · exact ⟨fun j => by rw [getD_nil]; exact sc_zero, rfl⟩
  · split
    · exact pTrim_can _
    · refine Can.of_trim _ (dv_sc2 _ _ _ ?_ _ _ ?_ (pTrim_can a).1)
      · omega
      · unfold dvN; omega
/-- What is left is shorter than what it is divided by. -/
theorem pRem_lt (a b : List Int) (ha : a.length ≤ 64) (hb : b.length ≤ 64) (h0 : 0 < (pTrim b).length) : (pRem a b).length < (pTrim b).length := by
  unfold pRem
  rw [if_neg (by omega)]
  split
  · omega
  · have h1 := dp_inv ((pTrim_can b).last h0)
    have h2 := trim_len_lt (l := (dv (pTrim b) ((pTrim b).length - 1) (dvC (pTrim b)) (dvN (pTrim a) (pTrim b)) (pTrim a)).2) (n := (pTrim b).length - 1) (dv_low _ _ _ (by omega) (h1.of (by unfold dvC; rw [Int.mul_comm])) _ _ (by unfold dvN; omega) (pTrim_can a).1 (fun j hj => getD_out (by unfold dvN at hj; omega)))
    omega
theorem can_nil : Can [] := ⟨fun j => by rw [getD_nil]; exact sc_zero, rfl⟩
/-- It is made up again. -/
theorem div_back (a b : List Int) (ha : a.length ≤ 64) (hb : b.length ≤ 64) : qAdd (qMul (pQuo a b) (pTrim b)) (pRem a b) = pTrim a := by
  have hlb := pTrim_len b
  have hla := pTrim_len a
  have hm := qMul_128 (pQuo a b) (pTrim b)
  have hr := pRem_64 a b
  have had := qAdd_len (qMul (pQuo a b) (pTrim b)) (pRem a b)
  refine made_out (qAdd_can _ _) (pTrim_can a) 200 (by decide) (by omega) (by omega) fun i _ => ?_
  generalize ((1 + i : Nat) : Int) = x
  have h1 := qAdd_ev x (qMul (pQuo a b) (pTrim b)) (pRem a b)
  have h2 := qMul_ev x (pQuo a b) (pTrim b) (pQuo_64 a b) (by omega)
  have h3 : Dp (ev (pTrim a) x - (ev (pQuo a b) x * ev (pTrim b) x + ev (pRem a b) x)) := by
    unfold pQuo pRem
    rw [if_neg (c := 64 < a.length ∨ 64 < b.length) (by omega)]
    by_cases h : (pTrim b).length = 0 ∨ (pTrim a).length < (pTrim b).length
    · rw [if_pos h, if_pos (Or.inr (Or.inr h))]
      exact dp_zero.of (by show ev (pTrim a) x - (0 * ev (pTrim b) x + ev (pTrim a) x) = 0; grind)
    · rw [if_neg h, if_neg (by omega)]
      have h4 := dv_ev x (pTrim b) ((pTrim b).length - 1) (dvC (pTrim b)) (by omega) (dvN (pTrim a) (pTrim b)) (pTrim a) (by unfold dvN; omega)
      have h5 := trimZ_ev x (dv (pTrim b) ((pTrim b).length - 1) (dvC (pTrim b)) (dvN (pTrim a) (pTrim b)) (pTrim a)).2
      exact (h4.sub h5).of (by omega)
  exact ((h1.add h2).sub h3).of (by omega)
/-- In the other's words: a number less. -/
theorem shift_neg (k y : Int) : scMul (scNeg k) y = scNeg (scMul k y) := by
  rw [scMul_eq, scNeg_eq, scNeg_eq, scMul_eq]
  exact sca_of_dp (((dp_sca (-k)).mul y).add (dp_sca (k * y)) |>.of (by grind))

end Go.Proofs.YthnahalboomkoaaGreat

/-
  Many rows, one product: no program in here.
-/
namespace Go.Proofs.YthnahalboomkoaaGreat

/-- What the rows, in order, have of a wire: t is 0, 1, 2 for A, B, C. -/
def colL (ls : List (List Int)) (n t j : Nat) : List Int := zls (fun i => (ls.getD (i * 3 + t) []).getD j 0) n
theorem colL_len (ls : List (List Int)) (n t j : Nat) : (colL ls n t j).length = n := zls_length _ _
theorem colL_at (ls : List (List Int)) {n i : Nat} (t j : Nat) (h : i < n) : (colL ls n t j).getD i 0 = (ls.getD (i * 3 + t) []).getD j 0 := zls_at _ h
/-- Of each wire a polynomial. -/
def qapN (ls : List (List Int)) (n t : Nat) : Nat → List (List Int)
  | 0 => []
  | k + 1 => qapN ls n t k ++ [pThr (colL ls n t k)]
theorem qapN_len (ls : List (List Int)) (n t : Nat) : ∀ k, (qapN ls n t k).length = k
  | 0 => rfl
  | k + 1 => by rw [qapN, List.length_append, qapN_len ls n t k]; rfl
theorem qapN_at (ls : List (List Int)) (n t : Nat) : ∀ (k j : Nat), j < k → (qapN ls n t k).getD j [] = pThr (colL ls n t j)
  | 0, _, h => by omega
  | k + 1, j, h => by
    rw [qapN, List.getD_eq_getElem?_getD]
    by_cases e : j = k
    · subst e
      rw [List.getElem?_append_right (by rw [qapN_len]; omega), qapN_len, Nat.sub_self]
      rfl
    · rw [List.getElem?_append_left (by rw [qapN_len]; omega), ← List.getD_eq_getElem?_getD]
      exact qapN_at ls n t k j (by omega)

/-- So many numbers, unbounded. -/
def sumZ (f : Nat → Int) : Nat → Int
  | 0 => 0
  | k + 1 => sumZ f k + f k
theorem sumZ_congr {f g : Nat → Int} : ∀ k, (∀ i, i < k → Dp (f i - g i)) → Dp (sumZ f k - sumZ g k)
  | 0, _ => dp_zero.of (by show (0 : Int) - 0 = 0; omega)
  | k + 1, h => ((sumZ_congr k fun i hi => h i (by omega)).add (h k (by omega))).of (by show sumZ f k + f k - (sumZ g k + g k) = _; omega)
/-- Each so often, all together. -/
def mixN (L : List (List Int)) (w : List Int) : Nat → List Int
  | 0 => []
  | k + 1 => qAdd (mixN L w k) (scl (L.getD k []) (w.getD k 0))
def pMix (L : List (List Int)) (w : List Int) : List Int := mixN L w (min L.length w.length)
theorem mixN_can (L : List (List Int)) (w : List Int) : ∀ k, Can (mixN L w k)
  | 0 => can_nil
  | _ + 1 => qAdd_can _ _
theorem mixN_ev (x : Int) (L : List (List Int)) (w : List Int) : ∀ k, Dp (ev (mixN L w k) x - sumZ (fun i => w.getD i 0 * ev (L.getD i []) x) k)
  | 0 => dp_zero.of (by show (0 : Int) - 0 = 0; omega)
  | k + 1 => by
    have h1 := qAdd_ev x (mixN L w k) (scl (L.getD k []) (w.getD k 0))
    have h2 := scl_ev x (w.getD k 0) (L.getD k [])
    have h3 := mixN_ev x L w k
    exact ((h1.add h2).add h3).of (by show ev (qAdd (mixN L w k) (scl (L.getD k []) (w.getD k 0))) x - (sumZ (fun i => w.getD i 0 * ev (L.getD i []) x) k + w.getD k 0 * ev (L.getD k []) x) = _; omega)
theorem mixN_len (L : List (List Int)) (w : List Int) (b : Nat) : ∀ k, (∀ i, i < k → (L.getD i []).length ≤ b) → (mixN L w k).length ≤ b
  | 0, _ => Nat.zero_le _
  | k + 1, h => by
    have h1 := qAdd_len (mixN L w k) (scl (L.getD k []) (w.getD k 0))
    have h2 := mixN_len L w b k fun i hi => h i (by omega)
    have h3 := h k (by omega)
    rw [scl_len] at h1
    show (qAdd _ _).length ≤ _
    omega
/-- At each place. -/
theorem qAdd_at (a b : List Int) (j : Nat) : Dp ((qAdd a b).getD j 0 - (a.getD j 0 + b.getD j 0)) := by
  have hz : (zls (padF a b) (max a.length b.length)).getD j 0 = padF a b j := by
    by_cases hj : j < max a.length b.length
    · exact zls_at _ hj
    · rw [getD_out (by rw [zls_length]; omega)]
      unfold padF
      rw [if_neg (by omega), if_neg (by omega)]
  rw [show qAdd a b = pTrim (zls (padF a b) (max a.length b.length)) from rfl, pTrim_at, hz]
  refine ((dp_sca (padF a b j)).add (?_ : Dp (padF a b j - (a.getD j 0 + b.getD j 0)))).of (by omega)
  unfold padF
  by_cases hb : j < b.length <;> by_cases ha : j < a.length
  · rw [if_pos hb, if_pos ha]
    exact ((dp_scAdd (scAdd 0 (a.getD j 0)) (b.getD j 0)).add (dp_scAdd 0 (a.getD j 0))).of (by omega)
  · rw [if_pos hb, if_neg ha, getD_out (l := a) (by omega)]
    exact (dp_scAdd 0 (b.getD j 0)).of (by omega)
  · rw [if_neg hb, if_pos ha, getD_out (l := b) (by omega)]
    exact (dp_scAdd 0 (a.getD j 0)).of (by omega)
  · rw [if_neg hb, if_neg ha, getD_out (l := a) (by omega), getD_out (l := b) (by omega)]
    exact dp_zero.of (by omega)
theorem scl_at (l : List Int) (c : Int) (j : Nat) : Dp ((scl l c).getD j 0 - c * l.getD j 0) := by
  unfold scl
  by_cases h : j < l.length
  · simp only [List.getD_eq_getElem?_getD, List.getElem?_map, List.getElem?_eq_getElem h, Option.map_some, Option.getD_some]
    exact (dp_scMul l[j] c).of (by grind)
  · rw [getD_out (by simp; omega), getD_out (by omega)]
    exact dp_zero.of (by omega)
theorem mixN_at (j : Nat) (L : List (List Int)) (w : List Int) : ∀ k, Dp ((mixN L w k).getD j 0 - sumZ (fun i => w.getD i 0 * (L.getD i []).getD j 0) k)
  | 0 => dp_zero.of (by show (([] : List Int).getD j 0) - 0 = 0; rw [getD_nil]; omega)
  | k + 1 => by
    have h1 := qAdd_at (mixN L w k) (scl (L.getD k []) (w.getD k 0)) j
    have h2 := scl_at (L.getD k []) (w.getD k 0) j
    have h3 := mixN_at j L w k
    exact ((h1.add h2).add h3).of (by show (qAdd (mixN L w k) (scl (L.getD k []) (w.getD k 0))).getD j 0 - (sumZ (fun i => w.getD i 0 * (L.getD i []).getD j 0) k + w.getD k 0 * (L.getD k []).getD j 0) = _; omega)

end Go.Proofs.YthnahalboomkoaaGreat
