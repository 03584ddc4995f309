/-
  Texts of one's own, joined.
-/
import Derived.Test.YtbkfdafdchjakabJoined15
import Derived.Test.YtbkfdafdchjakabPolyAddS
import Derived.Test.YtbkfdafdchjakabOrd
import Derived.Test.YtbkfdafdchjakabJoined14
import Derived.Test.YtbkfdafdchjakabJoined13

/-
  The polynomial that is 0 at the first places: no program in here.
-/
namespace Go.Proofs.Ytbkfdafdchjakab
open Go.RowKit

/-- It is 0 at 1 to k. -/
def zerL : Nat → List Int
  | 0 => [1]
  | k + 1 => qMul (zerL k) [-((k : Int) + 1), 1]
def pZer (n : Int) : List Int := if n < 0 ∨ n > 16 then [] else zerL n.toNat
theorem pZer_nat {k : Nat} (h : k ≤ 16) : pZer (k : Int) = zerL k := by
  unfold pZer
  rw [if_neg (by omega), Int.toNat_natCast]
theorem zerL_small : ∀ k, (zerL k).length ≤ k + 1
  | 0 => Nat.le_refl _
  | k + 1 => qMul_len2 _ _ _ (by have := zerL_small k; simp; omega)
theorem zerL_127 (k : Nat) : (zerL k).length ≤ 127 := by
  cases k with
  | zero => decide
  | succ k => exact qMul_128 _ _
theorem zerL_len (k : Nat) : (zerL k).length ≤ 1048576 := Nat.le_trans (zerL_127 k) (by decide)
theorem pZer_len (n : Int) : (pZer n).length ≤ 1048576 := by
  unfold pZer
  split
  · exact Nat.zero_le _
  · exact zerL_len _
/-- Its value. -/
def zerE : Nat → Int → Int
  | 0, _ => 1
  | k + 1, x => zerE k x * (x - ((k : Int) + 1))
theorem zerL_ev (x : Int) : ∀ k, k ≤ 16 → Dp (ev (zerL k) x - zerE k x)
  | 0, _ => dp_zero.of (by show 1 + x * 0 - 1 = 0; omega)
  | k + 1, h => by
    have h1 := zerL_ev x k (by omega)
    have h2 := qMul_ev x (zerL k) [-((k : Int) + 1), 1] (by have := zerL_small k; omega) (by simp)
    refine (h2.add (h1.mul (x - ((k : Int) + 1)))).of ?_
    show ev (qMul (zerL k) [-((k : Int) + 1), 1]) x - zerE k x * (x - ((k : Int) + 1)) = _
    have e : ev [-((k : Int) + 1), 1] x = x - ((k : Int) + 1) := by
      show -((k : Int) + 1) + x * (1 + x * 0) = _
      grind
    rw [e]
    grind
/-- At one of its places. -/
theorem zerE_zero : ∀ (k i : Nat), i < k → zerE k ((i : Int) + 1) = 0
  | 0, i, h => by omega
  | k + 1, i, h => by
    show zerE k ((i : Int) + 1) * ((i : Int) + 1 - ((k : Int) + 1)) = 0
    by_cases hi : i = k
    · subst hi
      rw [show (i : Int) + 1 - ((i : Int) + 1) = 0 by omega, Int.mul_zero]
    · rw [zerE_zero k i (by omega), Int.zero_mul]
/-- At the place behind them. -/
theorem zerE_next : ∀ (k s : Nat), k + s ≤ 1000 → 0 < s → ¬ Dp (zerE k ((k : Int) + s))
  | 0, s, _, _ => by
    intro h
    have : (1009 : Int) ∣ 1 := h
    omega
  | k + 1, s, h, hs => by
    intro hd
    have e : zerE (k + 1) (((k + 1 : Nat) : Int) + s) = ((s : Nat) : Int) * zerE k ((k : Int) + ((s + 1 : Nat) : Int)) := by
      show zerE k (((k + 1 : Nat) : Int) + s) * (((k + 1 : Nat) : Int) + s - ((k : Int) + 1)) = _
      rw [show ((k + 1 : Nat) : Int) + s = (k : Int) + ((s + 1 : Nat) : Int) by omega, show (k : Int) + ((s + 1 : Nat) : Int) - ((k : Int) + 1) = (s : Int) by omega, Int.mul_comm]
    rw [e] at hd
    exact zerE_next k (s + 1) (by omega) (by omega) (dp_prime hs (by omega) hd)
/-- What a literal makes. -/
theorem own_lit (w : World) (l : List Int) (hl : l.length ≤ 64) : RowZs w.heap.size (w.alloc (.cells (zsV l).toArray 3)) (.slice (some ⟨w.heap.size, 0, none⟩) l.length l.length) l := by
  refine ⟨by simp [zsV], .inr ⟨w.heap.size, l.length, (zsV l).toArray, rfl, Nat.le_refl _, heap_alloc_new w _, Nat.le_refl _, by unfold maxLen; omega, by simp [zsV], ?_⟩⟩
  rw [Nat.mul_one, List.take_of_length_le (by simp [zsV])]

end Go.Proofs.Ytbkfdafdchjakab

/-
  The polynomial through given values: two ways to it, one polynomial. No program in here.
-/
namespace Go.Proofs.Ytbkfdafdchjakab

/-- What is put to it at the place k + 1. -/
def thrF (ys p : List Int) (k : Nat) : Int := scMul (scAdd (ys.getD k 0) (scNeg (pAt p ((k : Int) + 1)))) (scInv (pAt (zerL k) ((k : Int) + 1)))
def thrL (ys : List Int) : Nat → List Int
  | 0 => []
  | k + 1 => qAdd (thrL ys k) (qMul [thrF ys (thrL ys k) k] (zerL k))
def pThr (ys : List Int) : List Int := if 16 < ys.length then [] else thrL ys ys.length
theorem thrL_small (ys : List Int) : ∀ k, (thrL ys k).length ≤ k
  | 0 => Nat.le_refl _
  | k + 1 => by
    have h1 := thrL_small ys k
    have h2 := qMul_len2 [thrF ys (thrL ys k) k] (zerL k) (k + 1) (by have := zerL_small k; simp; omega)
    have h3 := qAdd_len (thrL ys k) (qMul [thrF ys (thrL ys k) k] (zerL k))
    show (qAdd _ _).length ≤ _
    omega
theorem thrL_can (ys : List Int) : ∀ k, Can (thrL ys k)
  | 0 => ⟨fun j => by rw [show thrL ys 0 = [] from rfl, getD_nil]; exact sc_zero, rfl⟩
  | _ + 1 => qAdd_can _ _
theorem pThr_len (a : List Int) : (pThr a).length ≤ 1048576 := by
  unfold pThr
  split
  · exact Nat.zero_le _
  · have := thrL_small a a.length
    omega
theorem dp_pAt (l : List Int) (x : Int) : Dp (pAt l x - ev l x) := by rw [pAt_ev]; exact dp_sca _
/-- A number and what makes 1 of it. -/
theorem dp_inv {a : Int} (h : ¬ Dp a) : Dp (a * scInv a - 1) := by
  have h1 : sca a ≠ 0 := fun e => h ((dp_of_sca (b := 0) e).of (by omega))
  have h2 := scMul_inv (a := sca a) (by have := sca_nonneg a; omega) (sca_lt a)
  have e : scInv (sca a) = scInv a := by unfold scInv scn; rw [sca_sca]
  rw [e] at h2
  have h3 := dp_scMul (sca a) (scInv a)
  rw [h2] at h3
  exact (((dp_sca a).mul (scInv a)).add h3).neg.of (by grind)
/-- It has the values that it should. -/
theorem thrL_ev (ys : List Int) : ∀ k, k ≤ 16 → ∀ i, i < k → Dp (ev (thrL ys k) ((i : Int) + 1) - ys.getD i 0)
  | 0, _, i, h => by omega
  | k + 1, hk, i, hi => by
    have h1 := qAdd_ev ((i : Int) + 1) (thrL ys k) (qMul [thrF ys (thrL ys k) k] (zerL k))
    have h2 := qMul_ev ((i : Int) + 1) [thrF ys (thrL ys k) k] (zerL k) (by simp) (by have := zerL_small k; omega)
    have h3 := zerL_ev ((i : Int) + 1) k (by omega)
    have e1 : ev [thrF ys (thrL ys k) k] ((i : Int) + 1) = thrF ys (thrL ys k) k := by
      show thrF ys (thrL ys k) k + ((i : Int) + 1) * 0 = _
      omega
    rw [e1] at h2
    show Dp (ev (qAdd (thrL ys k) (qMul [thrF ys (thrL ys k) k] (zerL k))) ((i : Int) + 1) - ys.getD i 0)
    by_cases e : i = k
    · subst e
      have hz : ¬ Dp (ev (zerL i) ((i : Int) + 1)) := fun hd => zerE_next i 1 (by omega) (by decide) ((hd.sub h3).of (by show zerE i ((i : Int) + 1) = _; omega))
      have hz2 : ¬ Dp (pAt (zerL i) ((i : Int) + 1)) := fun hd => hz ((hd.sub (dp_pAt (zerL i) ((i : Int) + 1))).of (by omega))
      have h4 := dp_inv hz2
      have h5 := dp_pAt (zerL i) ((i : Int) + 1)
      have h6 := dp_pAt (thrL ys i) ((i : Int) + 1)
      have h7 := dp_scMul (scAdd (ys.getD i 0) (scNeg (pAt (thrL ys i) ((i : Int) + 1)))) (scInv (pAt (zerL i) ((i : Int) + 1)))
      have h8 := dp_scAdd (ys.getD i 0) (scNeg (pAt (thrL ys i) ((i : Int) + 1)))
      have h9 := dp_scNeg (pAt (thrL ys i) ((i : Int) + 1))
      have hF : thrF ys (thrL ys i) i = scMul (scAdd (ys.getD i 0) (scNeg (pAt (thrL ys i) ((i : Int) + 1)))) (scInv (pAt (zerL i) ((i : Int) + 1))) := rfl
      rw [← hF] at h7
      generalize thrF ys (thrL ys i) i = F at *
      generalize ev (qAdd (thrL ys i) (qMul [F] (zerL i))) ((i : Int) + 1) = E at *
      generalize ev (qMul [F] (zerL i)) ((i : Int) + 1) = M at *
      generalize scAdd (ys.getD i 0) (scNeg (pAt (thrL ys i) ((i : Int) + 1))) = D at *
      generalize scNeg (pAt (thrL ys i) ((i : Int) + 1)) = N at *
      generalize scInv (pAt (zerL i) ((i : Int) + 1)) = V at *
      generalize pAt (zerL i) ((i : Int) + 1) = Z at *
      generalize ev (zerL i) ((i : Int) + 1) = Z' at *
      generalize pAt (thrL ys i) ((i : Int) + 1) = T at *
      generalize ev (thrL ys i) ((i : Int) + 1) = T' at *
      generalize ys.getD i 0 = Y at *
      clear h3 hz hz2 hF e1
      exact (((((h1.add h2).sub (h5.mul F)).add (h7.mul Z)).add (h4.mul D)).add ((h8.add h9).sub h6)).of (by grind)
    · have h4 := thrL_ev ys k (by omega) i (by omega)
      rw [zerE_zero k i (by omega)] at h3
      exact (((h1.add h2).add (h3.mul (thrF ys (thrL ys k) k))).add h4).of (by grind)

/-- The other way: one for each value, 0 at all places but its own. -/
def oneL (i : Nat) : Nat → List Int
  | 0 => [1]
  | k + 1 => if k = i then oneL i k else qMul (oneL i k) [-((k : Int) + 1), 1]
def lowL (i : Nat) : Nat → Int
  | 0 => 1
  | k + 1 => if k = i then lowL i k else scMul (lowL i k) ((i : Int) - (k : Int))
def scl (l : List Int) (c : Int) : List Int := l.map fun y => scMul y c
def lagL (ys : List Int) (n : Nat) : Nat → List Int
  | 0 => []
  | i + 1 => qAdd (lagL ys n i) (scl (oneL i n) (scMul (ys.getD i 0) (scInv (lowL i n))))
/-- The values, unbounded. -/
def oneE (i : Nat) (x : Int) : Nat → Int
  | 0 => 1
  | k + 1 => if k = i then oneE i x k else oneE i x k * (x - ((k : Int) + 1))
theorem oneL_small (i : Nat) : ∀ k, (oneL i k).length ≤ (if i < k then k else k + 1)
  | 0 => by simp [oneL]
  | k + 1 => by
    have h := oneL_small i k
    unfold oneL
    by_cases e : k = i
    · rw [if_pos e, if_pos (by omega)]
      split at h <;> omega
    · rw [if_neg e]
      have h2 := qMul_len2 (oneL i k) [-((k : Int) + 1), 1] ((if i < k then k else k + 1) + 1) (by simp; omega)
      split at h2 <;> split <;> omega
theorem oneL_127 (i : Nat) : ∀ k, (oneL i k).length ≤ 127
  | 0 => by simp [oneL]
  | k + 1 => by
    unfold oneL
    split
    · exact oneL_127 i k
    · exact qMul_128 _ _
theorem oneL_ev (i : Nat) (x : Int) : ∀ k, k ≤ 16 → Dp (ev (oneL i k) x - oneE i x k)
  | 0, _ => dp_zero.of (by show 1 + x * 0 - 1 = 0; omega)
  | k + 1, h => by
    have h1 := oneL_ev i x k (by omega)
    unfold oneL oneE
    by_cases e : k = i
    · rw [if_pos e, if_pos e]; exact h1
    · rw [if_neg e, if_neg e]
      have h2 := qMul_ev x (oneL i k) [-((k : Int) + 1), 1] (by have := oneL_small i k; split at this <;> omega) (by simp)
      have e2 : ev [-((k : Int) + 1), 1] x = x - ((k : Int) + 1) := by
        show -((k : Int) + 1) + x * (1 + x * 0) = _
        grind
      rw [e2] at h2
      exact (h2.add (h1.mul (x - ((k : Int) + 1)))).of (by grind)
theorem oneE_zero (i j : Nat) (hij : j ≠ i) : ∀ k, j < k → oneE i ((j : Int) + 1) k = 0
  | 0, h => by omega
  | k + 1, h => by
    unfold oneE
    by_cases e : k = i
    · rw [if_pos e]; exact oneE_zero i j hij k (by omega)
    · rw [if_neg e]
      by_cases hk : j = k
      · subst hk
        rw [show (j : Int) + 1 - ((j : Int) + 1) = 0 by omega, Int.mul_zero]
      · rw [oneE_zero i j hij k (by omega), Int.zero_mul]
theorem lowL_ev (i : Nat) : ∀ k, Dp (lowL i k - oneE i ((i : Int) + 1) k)
  | 0 => dp_zero.of (by show (1 : Int) - 1 = 0; omega)
  | k + 1 => by
    unfold lowL oneE
    by_cases e : k = i
    · rw [if_pos e, if_pos e]; exact lowL_ev i k
    · rw [if_neg e, if_neg e]
      have h1 := lowL_ev i k
      have h2 := dp_scMul (lowL i k) ((i : Int) - (k : Int))
      exact (h2.add (h1.mul ((i : Int) - (k : Int)))).of (by grind)
theorem lowL_some (i : Nat) (hi : i ≤ 500) : ∀ k, k ≤ 500 → ¬ Dp (oneE i ((i : Int) + 1) k)
  | 0, _ => by
    intro h
    have : (1009 : Int) ∣ 1 := h
    omega
  | k + 1, hk => by
    unfold oneE
    by_cases e : k = i
    · rw [if_pos e]; exact lowL_some i hi k (by omega)
    · rw [if_neg e]
      intro h
      refine lowL_some i hi k (by omega) ?_
      rcases Nat.lt_or_ge k i with h1 | h1
      · refine dp_prime (d := i - k) (by omega) (by omega) (h.of ?_)
        rw [show ((i - k : Nat) : Int) = (i : Int) + 1 - ((k : Int) + 1) by omega, Int.mul_comm]
      · refine dp_prime (d := k - i) (by omega) (by omega) (h.neg.of ?_)
        rw [show ((k - i : Nat) : Int) = -((i : Int) + 1 - ((k : Int) + 1)) by omega]
        grind
theorem scl_ev (x c : Int) (l : List Int) : Dp (ev (scl l c) x - c * ev l x) := by
  rw [← ev_map]
  refine ev_congr x _ _ fun j => ?_
  unfold scl
  by_cases h : j < l.length
  · simp only [List.getD_eq_getElem?_getD, List.getElem?_map, List.getElem?_eq_getElem h, Option.map_some, Option.getD_some]
    exact (dp_scMul l[j] c).of (by grind)
  · rw [getD_out (by simp; omega), getD_out (by simp; omega)]
    exact dp_zero
theorem scl_len (l : List Int) (c : Int) : (scl l c).length = l.length := by simp [scl]
theorem lagL_small (ys : List Int) (n : Nat) : ∀ i, i ≤ n → (lagL ys n i).length ≤ n
  | 0, _ => Nat.zero_le _
  | i + 1, h => by
    have h1 := lagL_small ys n i (by omega)
    have h2 := qAdd_len (lagL ys n i) (scl (oneL i n) (scMul (ys.getD i 0) (scInv (lowL i n))))
    rw [scl_len] at h2
    have h3 := oneL_small i n
    rw [if_pos (by omega)] at h3
    show (qAdd _ _).length ≤ _
    omega
theorem lagL_can (ys : List Int) (n : Nat) : ∀ k, Can (lagL ys n k)
  | 0 => ⟨fun j => by rw [show lagL ys n 0 = [] from rfl, getD_nil]; exact sc_zero, rfl⟩
  | _ + 1 => qAdd_can _ _
theorem lagL_ev (ys : List Int) (n : Nat) (hn : n ≤ 16) : ∀ i, i ≤ n → ∀ j, j < n → Dp (ev (lagL ys n i) ((j : Int) + 1) - (if j < i then ys.getD j 0 else 0))
  | 0, _, j, hj => dp_zero.of (by rw [if_neg (by omega)]; rfl)
  | i + 1, hi, j, hj => by
    have h0 := lagL_ev ys n hn i (by omega) j hj
    have h1 := qAdd_ev ((j : Int) + 1) (lagL ys n i) (scl (oneL i n) (scMul (ys.getD i 0) (scInv (lowL i n))))
    have h2 := scl_ev ((j : Int) + 1) (scMul (ys.getD i 0) (scInv (lowL i n))) (oneL i n)
    have h3 := oneL_ev i ((j : Int) + 1) n hn
    show Dp (ev (qAdd (lagL ys n i) (scl (oneL i n) (scMul (ys.getD i 0) (scInv (lowL i n))))) ((j : Int) + 1) - _)
    by_cases e : j = i
    · subst e
      rw [if_neg (by omega)] at h0
      rw [if_pos (by omega)]
      have h4 := lowL_ev j n
      have h5 := lowL_some j (by omega) n (by omega)
      have h6 := dp_inv (a := lowL j n) (fun hd => h5 ((hd.sub h4).of (by omega)))
      have h7 := dp_scMul (ys.getD j 0) (scInv (lowL j n))
      generalize scMul (ys.getD j 0) (scInv (lowL j n)) = C at *
      generalize ev (qAdd (lagL ys n j) (scl (oneL j n) C)) ((j : Int) + 1) = E at *
      generalize ev (scl (oneL j n) C) ((j : Int) + 1) = S at *
      generalize ev (lagL ys n j) ((j : Int) + 1) = G at *
      generalize scInv (lowL j n) = V at *
      generalize lowL j n = W at *
      generalize ev (oneL j n) ((j : Int) + 1) = O at *
      generalize oneE j ((j : Int) + 1) n = O' at *
      generalize ys.getD j 0 = Y at *
      clear h5
      exact (((((h1.add h2).add h0).add ((h3.sub h4).mul C)).add (h7.mul W)).add (h6.mul Y)).of (by grind)
    · rw [oneE_zero i j e n (by omega)] at h3
      have e2 : (if j < i + 1 then ys.getD j 0 else 0) = (if j < i then ys.getD j 0 else 0) := by
        by_cases h : j < i
        · rw [if_pos h, if_pos (by omega)]
        · rw [if_neg h, if_neg (by omega)]
      rw [e2]
      exact (((h1.add h2).add (h3.mul (scMul (ys.getD i 0) (scInv (lowL i n))))).add h0).of (by grind)
theorem thr_lag (ys : List Int) (h : ys.length ≤ 16) : lagL ys ys.length ys.length = pThr ys := by
  unfold pThr
  rw [if_neg (by omega)]
  refine made_out (lagL_can ys _ _) (thrL_can ys _) ys.length (by omega) (lagL_small ys _ _ (Nat.le_refl _)) (thrL_small ys _) fun i hi => ?_
  have h1 := lagL_ev ys ys.length h ys.length (Nat.le_refl _) i hi
  rw [if_pos hi] at h1
  have h2 := thrL_ev ys ys.length h i hi
  rw [show ((1 + i : Nat) : Int) = (i : Int) + 1 by omega]
  exact (h1.sub h2).of (by omega)

end Go.Proofs.Ytbkfdafdchjakab

/-
  The walks of the specification's polynomial with given zeros and of its polynomial through given values.
  (-DROP-: what the seat lacks is left out.)
-/
namespace Go.Proofs.Ytbkfdafdchjakab
open Go.RowKit

set_option maxHeartbeats 800000 in
set_option maxRecDepth 100000 in
theorem in16_any (n : Int) (w : World) : Calls Try.prog 70 #[.int .i64 n, .int .i64 0, .int .i64 16] w fun e w' => e = .returned (.bool (decide (0 ≤ n ∧ n ≤ 16))) ∧ w = w' := by
  by_cases h1 : n ≥ 0
  · by_cases h2 : n ≤ 16
    · have e : decide (0 ≤ n ∧ n ≤ 16) = true := by simp; omega
      rw [e]
      go_enter Try.func70, Try.ntmps70
      go_wp2
      go_ret
      exact ⟨rfl, rfl⟩
    · have e : decide (0 ≤ n ∧ n ≤ 16) = false := by simp; omega
      rw [e]
      go_enter Try.func70, Try.ntmps70
      go_wp2
      go_ret
      exact ⟨rfl, rfl⟩
  · have e : decide (0 ≤ n ∧ n ≤ 16) = false := by simp; omega
    rw [e]
    go_enter Try.func70, Try.ntmps70
    go_wp2
    go_ret
    exact ⟨rfl, rfl⟩

set_option maxHeartbeats 1600000 in
set_option maxRecDepth 100000 in
theorem sScl_any (v : Value) (l : List Int) (c : Int) (hl : l.length ≤ 1048576) (w : World) (h : ZAt w w.heap.size v l) :
    Calls Try.prog 127 #[v, .int .i64 c] w fun e w' => ∃ u, e = .returned u ∧ ZOwn w.heap.size w'.heap.size w' u (scl l c) ∧ Below w.heap.size w w' := by
  obtain ⟨i0, hi, hz0, hz1, hz2⟩ := info_parts info3I
  obtain ⟨a, cp, rfl, hA⟩ := h
  have HA : Hid (IntsAt w a l.length w.heap.size (fun j => l.getD j 0)) := hA
  obtain ⟨n, hn⟩ : ∃ n, n = l.length := ⟨_, rfl⟩
  have HN : Hid (n = l.length) := hn
  rw [← hn] at HA hl ⊢
  clear hn hA
  go_enter Try.func127, Try.ntmps127
  go_wp2
  go_loopw [5, 6] (fun u i wr => ∃ (k : Nat) (m : List Int), i = .int .i64 (k : Int) ∧ k ≤ n ∧ Hid (m = scl (l.take k) c) ∧ m.length = k ∧ wr.ownsRow w.heap.size 3 1 u k (zsV m) ∧ Hid (Below w.heap.size w wr)) (fun _ i _ => n - (intOf i).toNat)
  case atStart => exact ⟨0, [], rfl, by omega, rfl, rfl, World.ownsRow_lit _ _ _ (Nat.le_refl _) (by simp [maxLen]) (by simp), (Below.refl _ _).alloc (Nat.le_refl _) _⟩
  case round =>
    obtain ⟨k, m, rfl, hk, HM, hml, hown, HB⟩ := hrel
    have hsz : w.heap.size ≤ wr.heap.size := HB.out.size
    by_cases hlt : k < n
    · have hlt' : (k : Int) < (n : Int) := by omega
      have hk0 : (0 : Int) ≤ (k : Int) := by omega
      have hm63 : k + 1 ≤ maxLen := by unfold maxLen; omega
      have hm47 : (k + 1) * 8 ≤ 140737488355328 := by omega
      obtain ⟨b, off, rfl, hb, hz⟩ := (HA.out.on HB.out) k hlt
      replace hz : wr.cell? ⟨b, off + k, none⟩ = some (.int .i64 (l.getD k 0)) := hz
      have HS : Hid (∀ w, Calls Try.prog 48 #[.int .i64 (l.getD k 0), .int .i64 c] w fun e w' => e = .returned (.int .i64 (scMul (l.getD k 0) c)) ∧ w = w') := sScMul_any _ _
      have HM2 : Hid (m ++ [scMul (l.getD k 0) c] = scl (l.take (k + 1)) c) := by
        show _ = _
        have hkl : k < l.length := by have := HN.out; omega
        rw [HM.out, List.take_succ_eq_append_getElem hkl]
        unfold scl
        rw [List.map_append]
        simp [hkl]
      generalize scMul (l.getD k 0) c = y at HS HM2
      generalize l.getD k 0 = x at hz HS
      clear hb HA HM
      go_wp2_with (first
        | (go_at_call 48; refine (HS.out _).mono ?_; rintro e wz ⟨rfl, rfl⟩)
        | (at_builtin; refine wpList_append_own _ rfl _ _ 27 rfl w.heap.size 3 i0 (.int .i64 0) 1 8 Try.underlying27 hi hz0 hz1 hz2 rfl (by decide) _ _ _ rfl (hown.alloc _) ⟨wr.heap.size, 0, none⟩ 1 1 [.int .i64 y] rfl rfl (cell_one_new _ _ _) (one_cell _ _) hm63 hm47 (room_for hsz _) ?_))
      intro v' w4 hown' hgrow _
      have R : w4.ownsRow w.heap.size 3 1 v' (k + 1) (zsV (m ++ [y])) := by rw [zsV_append]; exact hown'
      have HB2 : Hid (Below w.heap.size w w4) := (HB.out.alloc hsz _).grown hgrow (by simp; omega) (fun k hk => (hown.lt k hk).1)
      have hml2 : (m ++ [y]).length = k + 1 := by simp [hml]
      clear hown' hgrow hown
      go_wp2
      go_roundw
      case rel => exact ⟨k + 1, _, by go_num, hlt, HM2, hml2, R, HB2⟩
      case measure => simp [intOf]; omega
    · have hlt' : ¬ (k : Int) < (n : Int) := by omega
      obtain rfl : n = k := by omega
      have HM2 : Hid (m = scl l c) := by
        show _ = _
        rw [HM.out, HN.out, List.take_length]
      obtain ⟨ra, rc, hv⟩ := row_form hown
      subst hv
      have HR : Hid (RowZs w.heap.size wr (.slice ra n rc) (scl l c)) := by
        show wr.ownsRow w.heap.size 3 1 _ (scl l c).length (zsV (scl l c))
        rw [← HM2.out, hml]
        exact hown
      clear HM hown HM2
      go_wp2
      go_ret
      exact ⟨_, rfl, ZOwn.of HR.out, HB.out⟩

end Go.Proofs.Ytbkfdafdchjakab

/-
  The walk of what the specification says a wire is at Tau.
  (-DROP-: what the seat lacks is left out.)
-/
namespace Go.Proofs.Ytbkfdafdchjakab
open Go.RowKit

set_option maxHeartbeats 3200000 in
set_option maxRecDepth 100000 in
theorem sWire_any (a0 : Option Addr) (c0 : Nat) (a1 : Option Addr) (c1 : Nat) (a2 : Option Addr) (c2 nq : Nat) (LU LV LX : List (List Int)) (zu : ∀ j, (LU.getD j []).length ≤ 1048576) (zv : ∀ j, (LV.getD j []).length ≤ 1048576) (zx : ∀ j, (LX.getD j []).length ≤ 1048576) (ta al be ga de : Int) (j : Nat) (hj : j < nq) (w : World)
    (hU : NAt 1 w w.heap.size (.slice a0 nq c0) nq LU) (hV : NAt 1 w w.heap.size (.slice a1 nq c1) nq LV) (hX : NAt 1 w w.heap.size (.slice a2 nq c2) nq LX) :
    Calls Try.prog 46 #[.agg #[.slice a0 nq c0, .slice a1 nq c1, .slice a2 nq c2], .agg #[.int .i64 ta, .int .i64 al, .int .i64 be, .int .i64 ga, .int .i64 de], .int .i64 (j : Int)] w fun e w' => e = .returned (.tuple #[.int .i64 (pAt (LU.getD j []) ta), .int .i64 (pAt (LV.getD j []) ta), .int .i64 (wireA al be (pAt (LU.getD j []) ta) (pAt (LV.getD j []) ta) (pAt (LX.getD j []) ta))]) ∧ Below w.heap.size w w' := by
  obtain ⟨W, hW, hb, hs, hr⟩ := boxes1r w 87 56 #[.slice a0 nq c0, .slice a1 nq c1, .slice a2 nq c2] #[.int .i64 ta, .int .i64 al, .int .i64 be, .int .i64 ga, .int .i64 de]
  have hj0 : (0 : Int) ≤ (j : Int) := by omega
  have hjn : (j : Int) < (nq : Int) := by omega
  have HB : Hid (Below w.heap.size w W) := hb
  obtain ⟨_, _, _, e0, F0⟩ := hU
  obtain ⟨b0, o0, v0, k0, l0, d0, y0⟩ := F0 j (by omega)
  have ea0 : a0 = some ⟨b0, o0, none⟩ := by injection e0 with e1; rw [e1, k0]
  subst ea0
  have C0 : Hid (∀ X, Below W.heap.size W X → Calls Try.prog 90 #[v0, .int .i64 ta] X fun e w' => e = .returned (.int .i64 (pAt (LU.getD j []) ta)) ∧ Below X.heap.size X w') := fun X hX => by
    have hbX := hb.trans (hX.mono hb.size)
    exact sAt_any v0 _ ta (zu j) X ((y0.on hbX).wide hbX.size)
  have D0 : Hid (∀ X, Below W.heap.size W X → X.cell? ⟨b0, o0 + j, none⟩ = some v0) := fun X hX => ((hb.trans (hX.mono hb.size)).cell (p := ⟨b0, o0 + j, none⟩) l0).trans d0
  obtain ⟨ya0, yc0, hy0, _⟩ := id y0
  subst hy0
  clear e0 F0 k0 l0 d0 y0
  obtain ⟨_, _, _, e1, F1⟩ := hV
  obtain ⟨b1, o1, v1, k1, l1, d1, y1⟩ := F1 j (by omega)
  have ea1 : a1 = some ⟨b1, o1, none⟩ := by injection e1 with e1; rw [e1, k1]
  subst ea1
  have C1 : Hid (∀ X, Below W.heap.size W X → Calls Try.prog 90 #[v1, .int .i64 ta] X fun e w' => e = .returned (.int .i64 (pAt (LV.getD j []) ta)) ∧ Below X.heap.size X w') := fun X hX => by
    have hbX := hb.trans (hX.mono hb.size)
    exact sAt_any v1 _ ta (zv j) X ((y1.on hbX).wide hbX.size)
  have D1 : Hid (∀ X, Below W.heap.size W X → X.cell? ⟨b1, o1 + j, none⟩ = some v1) := fun X hX => ((hb.trans (hX.mono hb.size)).cell (p := ⟨b1, o1 + j, none⟩) l1).trans d1
  obtain ⟨ya1, yc1, hy1, _⟩ := id y1
  subst hy1
  clear e1 F1 k1 l1 d1 y1
  obtain ⟨_, _, _, e2, F2⟩ := hX
  obtain ⟨b2, o2, v2, k2, l2, d2, y2⟩ := F2 j (by omega)
  have ea2 : a2 = some ⟨b2, o2, none⟩ := by injection e2 with e1; rw [e1, k2]
  subst ea2
  have C2 : Hid (∀ X, Below W.heap.size W X → Calls Try.prog 90 #[v2, .int .i64 ta] X fun e w' => e = .returned (.int .i64 (pAt (LX.getD j []) ta)) ∧ Below X.heap.size X w') := fun X hX => by
    have hbX := hb.trans (hX.mono hb.size)
    exact sAt_any v2 _ ta (zx j) X ((y2.on hbX).wide hbX.size)
  have D2 : Hid (∀ X, Below W.heap.size W X → X.cell? ⟨b2, o2 + j, none⟩ = some v2) := fun X hX => ((hb.trans (hX.mono hb.size)).cell (p := ⟨b2, o2 + j, none⟩) l2).trans d2
  obtain ⟨ya2, yc2, hy2, _⟩ := id y2
  subst hy2
  clear e2 F2 k2 l2 d2 y2
  generalize (LU.getD j []).length = n0 at *
  generalize pAt (LU.getD j []) ta = p0 at *
  generalize (LV.getD j []).length = n1 at *
  generalize pAt (LV.getD j []) ta = p1 at *
  generalize (LX.getD j []).length = n2 at *
  generalize pAt (LX.getD j []) ta = p2 at *
  have M0 : Hid (∀ X, Calls Try.prog 48 #[.int .i64 be, .int .i64 p0] X fun e w' => e = .returned (.int .i64 (scMul be p0)) ∧ X = w') := sScMul_any _ _
  have M1 : Hid (∀ X, Calls Try.prog 48 #[.int .i64 al, .int .i64 p1] X fun e w' => e = .returned (.int .i64 (scMul al p1)) ∧ X = w') := sScMul_any _ _
  have M2 : Hid (∀ X, Calls Try.prog 47 #[.int .i64 (scMul be p0), .int .i64 (scMul al p1)] X fun e w' => e = .returned (.int .i64 (scAdd (scMul be p0) (scMul al p1))) ∧ X = w') := sScAdd_any _ _
  have M3 : Hid (∀ X, Calls Try.prog 47 #[.int .i64 (scAdd (scMul be p0) (scMul al p1)), .int .i64 p2] X fun e w' => e = .returned (.int .i64 (wireA al be p0 p1 p2)) ∧ X = w') := sScAdd_any _ _
  generalize wireA al be p0 p1 p2 = r3 at *
  generalize scAdd (scMul be p0) (scMul al p1) = r2 at *
  generalize scMul be p0 = r0 at *
  generalize scMul al p1 = r1 at *
  clear hb
  go_enter Try.func46, Try.ntmps46
  go_wp2_with fail
  clear hW
  have T0 : Below W.heap.size W W.drew := (Below.refl _ _).drew
  refine wp_region_ord [(0, false), (1, false), (2, false), (3, false), (4, false), (5, false), (6, false), (7, true), (8, false)] (fun wz => Below W.heap.size W wz) mixesSc (by kernel_rfl) T0 ?_
  repeat (refine ord_float rfl rfl (fun K hK => ⟨_, (fun w' hw => by have q0 := (hs.on hw hs.lt).cell 0; have q1 :=  (hr.on hw hr.lt).cell 0; have q2 :=  D0.out _ hw; go_simp; exact rfl), ?_⟩); go_simp; refine hK _ ?_; clear hK K)
  refine ord_call rfl rfl (fun K hK => ⟨_, _, (by go_simp <;> first | exact rfl | exact ⟨rfl, rfl⟩), ?_⟩)
  refine (C0.out _ T0).mono ?_
  rintro e u1 ⟨rfl, hu1⟩
  have T1 := below_then T0 hu1
  refine ⟨_, rfl, T1, ?_⟩
  go_simp
  refine hK _ _ ?_
  clear hK K
  repeat (refine ord_float rfl rfl (fun K hK => ⟨_, (fun w' hw => by have q0 := (hs.on hw hs.lt).cell 0; have q1 :=  (hr.on hw hr.lt).cell 0; have q2 :=  D0.out _ hw; go_simp; exact rfl), ?_⟩); go_simp; refine hK _ ?_; clear hK K)
  refine ord_nil ?_
  go_wp2_with fail
  have T1d : Below W.heap.size W u1.drew := T1.drew
  refine wp_region_ord [(0, false), (1, false), (2, false), (3, false), (4, false), (5, false), (6, false), (7, true), (8, false)] (fun wz => Below W.heap.size W wz) mixesSc (by kernel_rfl) T1d ?_
  repeat (refine ord_float rfl rfl (fun K hK => ⟨_, (fun w' hw => by have q0 := (hs.on hw hs.lt).cell 1; have q1 :=  (hr.on hw hr.lt).cell 0; have q2 :=  D1.out _ hw; go_simp; exact rfl), ?_⟩); go_simp; refine hK _ ?_; clear hK K)
  refine ord_call rfl rfl (fun K hK => ⟨_, _, (by go_simp <;> first | exact rfl | exact ⟨rfl, rfl⟩), ?_⟩)
  refine (C1.out _ T1d).mono ?_
  rintro e u2 ⟨rfl, hu2⟩
  have T2 := below_then T1d hu2
  refine ⟨_, rfl, T2, ?_⟩
  go_simp
  refine hK _ _ ?_
  clear hK K
  repeat (refine ord_float rfl rfl (fun K hK => ⟨_, (fun w' hw => by have q0 := (hs.on hw hs.lt).cell 1; have q1 :=  (hr.on hw hr.lt).cell 0; have q2 :=  D1.out _ hw; go_simp; exact rfl), ?_⟩); go_simp; refine hK _ ?_; clear hK K)
  refine ord_nil ?_
  go_wp2_with fail
  have T2d : Below W.heap.size W u2.drew := T2.drew
  refine wp_region_ord [(0, false), (1, false), (2, false), (3, false), (4, false), (5, false), (6, false), (7, true), (8, false)] (fun wz => Below W.heap.size W wz) mixesSc (by kernel_rfl) T2d ?_
  repeat (refine ord_float rfl rfl (fun K hK => ⟨_, (fun w' hw => by have q0 := (hs.on hw hs.lt).cell 2; have q1 :=  (hr.on hw hr.lt).cell 0; have q2 :=  D2.out _ hw; go_simp; exact rfl), ?_⟩); go_simp; refine hK _ ?_; clear hK K)
  refine ord_call rfl rfl (fun K hK => ⟨_, _, (by go_simp <;> first | exact rfl | exact ⟨rfl, rfl⟩), ?_⟩)
  refine (C2.out _ T2d).mono ?_
  rintro e u3 ⟨rfl, hu3⟩
  have T3 := below_then T2d hu3
  refine ⟨_, rfl, T3, ?_⟩
  go_simp
  refine hK _ _ ?_
  clear hK K
  repeat (refine ord_float rfl rfl (fun K hK => ⟨_, (fun w' hw => by have q0 := (hs.on hw hs.lt).cell 2; have q1 :=  (hr.on hw hr.lt).cell 0; have q2 :=  D2.out _ hw; go_simp; exact rfl), ?_⟩); go_simp; refine hK _ ?_; clear hK K)
  refine ord_nil ?_
  go_wp2_with fail
  have T3d : Below W.heap.size W u3.drew := T3.drew
  refine wp_region_ord [(0, false), (1, false), (2, false), (3, false), (4, false), (6, false), (7, false), (8, false), (11, false), (5, true), (9, true), (10, true), (12, true), (13, false), (14, false), (15, false)] (fun wz => Below W.heap.size W wz) mixesSc (by kernel_rfl) T3d ?_
  repeat (refine ord_float rfl rfl (fun K hK => ⟨_, (fun w' hw => by have q0 := (hr.on hw hr.lt).cell 1; have q1 :=  (hr.on hw hr.lt).cell 2; go_simp; exact rfl), ?_⟩); go_simp; refine hK _ ?_; clear hK K)
  refine ord_call rfl rfl (fun K hK => ⟨_, _, (by go_simp <;> first | exact rfl | exact ⟨rfl, rfl⟩), ?_⟩)
  refine (M0.out _).mono ?_
  rintro e u4 ⟨rfl, hu4⟩
  have T4 : Below W.heap.size W u4 := hu4 ▸ T3d
  refine ⟨_, rfl, T4, ?_⟩
  go_simp
  refine hK _ _ ?_
  clear hK K
  repeat (refine ord_float rfl rfl (fun K hK => ⟨_, (fun w' hw => by have q0 := (hr.on hw hr.lt).cell 1; have q1 :=  (hr.on hw hr.lt).cell 2; go_simp; exact rfl), ?_⟩); go_simp; refine hK _ ?_; clear hK K)
  refine ord_call rfl rfl (fun K hK => ⟨_, _, (by go_simp <;> first | exact rfl | exact ⟨rfl, rfl⟩), ?_⟩)
  refine (M1.out _).mono ?_
  rintro e u5 ⟨rfl, hu5⟩
  have T5 : Below W.heap.size W u5 := hu5 ▸ T4
  refine ⟨_, rfl, T5, ?_⟩
  go_simp
  refine hK _ _ ?_
  clear hK K
  repeat (refine ord_float rfl rfl (fun K hK => ⟨_, (fun w' hw => by have q0 := (hr.on hw hr.lt).cell 1; have q1 :=  (hr.on hw hr.lt).cell 2; go_simp; exact rfl), ?_⟩); go_simp; refine hK _ ?_; clear hK K)
  refine ord_call rfl rfl (fun K hK => ⟨_, _, (by go_simp <;> first | exact rfl | exact ⟨rfl, rfl⟩), ?_⟩)
  refine (M2.out _).mono ?_
  rintro e u6 ⟨rfl, hu6⟩
  have T6 : Below W.heap.size W u6 := hu6 ▸ T5
  refine ⟨_, rfl, T6, ?_⟩
  go_simp
  refine hK _ _ ?_
  clear hK K
  repeat (refine ord_float rfl rfl (fun K hK => ⟨_, (fun w' hw => by have q0 := (hr.on hw hr.lt).cell 1; have q1 :=  (hr.on hw hr.lt).cell 2; go_simp; exact rfl), ?_⟩); go_simp; refine hK _ ?_; clear hK K)
  refine ord_call rfl rfl (fun K hK => ⟨_, _, (by go_simp <;> first | exact rfl | exact ⟨rfl, rfl⟩), ?_⟩)
  refine (M3.out _).mono ?_
  rintro e u7 ⟨rfl, hu7⟩
  have T7 : Below W.heap.size W u7 := hu7 ▸ T6
  refine ⟨_, rfl, T7, ?_⟩
  go_simp
  refine hK _ _ ?_
  clear hK K
  repeat (refine ord_float rfl rfl (fun K hK => ⟨_, (fun w' hw => by have q0 := (hr.on hw hr.lt).cell 1; have q1 :=  (hr.on hw hr.lt).cell 2; go_simp; exact rfl), ?_⟩); go_simp; refine hK _ ?_; clear hK K)
  refine ord_nil ?_
  go_wp2
  go_ret3
  exact ⟨rfl, HB.out.trans (T7.mono HB.out.size)⟩

end Go.Proofs.Ytbkfdafdchjakab
