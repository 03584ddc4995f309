/-
  A witness of bits is right, and no other number in it is: no program in here.
-/
import Derived.Test.YtfiflcedbejamaaRwCS3
import Derived.Test.YtfiflcedbejamaaRwSys3
namespace Go.Proofs.Ytfiflcedbejamaa

theorem scMul_zero_left (x : Int) : scMul 0 x = 0 := by unfold scMul sca; simp
theorem dot_congr (f g f' g' : Nat → Int) : ∀ n, (∀ j, j < n → scMul (f j) (g j) = scMul (f' j) (g' j)) → dotN f g n = dotN f' g' n
  | 0, _ => rfl
  | n + 1, h => by
    show scAdd (dotN f g n) _ = scAdd (dotN f' g' n) _
    rw [dot_congr f g f' g' n (fun j hj => h j (by omega)), h n (by omega)]
theorem dot_hot (k : Nat) (g : Nat → Int) : ∀ n, dotN (hotF k) g n = if k < n then sca (g k) else 0
  | 0 => by rw [if_neg (by omega)]; rfl
  | n + 1 => by
    show scAdd (dotN (hotF k) g n) (scMul (hotF k n) (g n)) = _
    rw [dot_hot k g n]
    unfold hotF
    by_cases h : n = k
    · subst h
      rw [if_neg (by omega), if_pos rfl, if_pos (by omega)]
      unfold scAdd scMul sca
      simp
    · rw [if_neg h, scMul_zero_left]
      by_cases h2 : k < n
      · rw [if_pos h2, if_pos (by omega)]
        unfold scAdd sca
        simp
      · rw [if_neg h2, if_neg (by omega)]
        rfl
theorem zdot_hot {k : Nat} (hk : k < 11) {m : List Int} (hm : m.length = 11) : zdot (hotL k) m = sca (m.getD k 0) := by
  have e : zdot (hotL k) m = dotN (hotF k) (fun j => m.getD j 0) 11 := by
    unfold zdot hotL
    rw [zls_length, hm]
    exact dot_congr _ _ _ _ 11 fun j hj => by rw [zls_at _ hj]
  rw [e, dot_hot, if_pos hk]
theorem zdot_pow (b : Int) {m m' : List Int} (hm : m.length = 11) (hm' : m'.length = 11) (h : ∀ j, 3 ≤ j → m.getD j 0 = m'.getD j 0) : zdot (powL b) m = zdot (powL b) m' := by
  unfold zdot powL
  rw [zls_length, hm, hm']
  refine dot_congr _ _ _ _ 11 fun j hj => ?_
  rw [zls_at _ hj]
  by_cases h3 : 3 ≤ j
  · rw [h j h3]
  · have e : powF b 8 j = 0 := by unfold powF; rw [if_neg (by omega)]
    rw [e, scMul_zero_left, scMul_zero_left]
theorem soN_at {ls : List (List Int)} {m : List Int} {n : Nat} (h : soN ls m n = true) {k : Nat} (hk : k < n) : rowSo (ls.getD (k * 3) []) (ls.getD (k * 3 + 1) []) (ls.getD (k * 3 + 2) []) m = true := by
  have h1 : soN ls m (k + 1) = true := by
    cases hq : soN ls m (k + 1)
    · rw [soN_false ls m hq n (by omega)] at h; cases h
    · rfl
  have h2 : (soN ls m k && rowSo (ls.getD (k * 3) []) (ls.getD (k * 3 + 1) []) (ls.getD (k * 3 + 2) []) m) = true := h1
  rw [Bool.and_eq_true] at h2
  exact h2.2

theorem wit_check : ((List.range 256).all fun b => sysSo 11 2 10 (csN 10) (witOf (b : Int)) && sysOk 11 2 10 (csN 10)) = true := by decide +kernel
theorem wit_so {b : Int} (h0 : 0 ≤ b) (h1 : b < 256) : sysSo 11 2 10 (csN 10) (witOf b) = true ∧ sysOk 11 2 10 (csN 10) = true := by
  have h := List.all_eq_true.1 wit_check b.toNat (List.mem_range.2 (by omega))
  have e : ((b.toNat : Nat) : Int) = b := by omega
  rw [e, Bool.and_eq_true] at h
  exact h
/-- A bit is turned. -/
def flip (b : Int) (j : Nat) : List Int := (witOf b).set (3 + j) (1 - (witOf b).getD (3 + j) 0)
theorem flip_check : ((List.range 256).all fun b => (List.range 8).all fun j => !rowSo (hotL 0) (powL 2) (hotL 1) (flip (b : Int) j)) = true := by decide +kernel
theorem flip_no {b : Int} (h0 : 0 ≤ b) (h1 : b < 256) {j : Nat} (hj : j < 8) : rowSo (hotL 0) (powL 2) (hotL 1) (flip b j) = false := by
  have h := List.all_eq_true.1 (List.all_eq_true.1 flip_check b.toNat (List.mem_range.2 (by omega))) j (List.mem_range.2 hj)
  have e : ((b.toNat : Nat) : Int) = b := by omega
  rw [e] at h
  simpa using h
theorem square_check : ((List.range 1009).all fun v => decide (v < 2) || !decide (v * v % 1009 = v)) = true := by decide +kernel
theorem square_bit {v : Int} (h0 : 0 ≤ v) (h1 : v < 1009) (h : scMul v v = v) : v = 0 ∨ v = 1 := by
  have hc := List.all_eq_true.1 square_check v.toNat (List.mem_range.2 (by omega))
  have e : ((v.toNat : Nat) : Int) = v := by omega
  rw [scMul_eq] at h
  unfold sca at h
  rw [← e] at h
  have h2 : v.toNat * v.toNat % 1009 = v.toNat := by
    have h3 : ((v.toNat * v.toNat % 1009 : Nat) : Int) = ((v.toNat : Nat) : Int) := by rw [Int.natCast_emod, Int.natCast_mul]; exact h
    omega
  simp only [h2, Bool.or_eq_true, decide_eq_true_eq, Bool.not_eq_true', decide_eq_false_iff_not] at hc
  rcases hc with hc | hc
  · omega
  · exact absurd trivial hc

theorem witOf_eq {b : Int} (h0 : 0 ≤ b) (h1 : b < 256) : witOf b = [1, b, bitsB b] ++ bitL b 8 := if_pos ⟨h0, by omega⟩
theorem wit_len {b : Int} (h0 : 0 ≤ b) (h1 : b < 256) : (witOf b).length = 11 := by rw [witOf_eq h0 h1]; simp [bitL_length]
theorem wit_at {b : Int} (h0 : 0 ≤ b) (h1 : b < 256) {i : Nat} (hi : i < 11) : 0 ≤ (witOf b).getD i 0 ∧ (witOf b).getD i 0 ≤ 255 ∧ (i = 0 → (witOf b).getD i 0 = 1) ∧ (3 ≤ i → (witOf b).getD i 0 = 0 ∨ (witOf b).getD i 0 = 1) := by
  rw [witOf_eq h0 h1]
  by_cases h3 : 3 ≤ i
  · have e : ([1, b, bitsB b] ++ bitL b 8).getD i 0 = b / 2 ^ (i - 3) % 2 := by
      rw [getD_app_right _ _ _ _ (by simpa using h3)]
      show (bitL b 8).getD (i - 3) 0 = _
      unfold bitL
      simp [show i - 3 < 8 by omega]
    rw [e]
    have : b / 2 ^ (i - 3) % 2 = 0 ∨ b / 2 ^ (i - 3) % 2 = 1 := by omega
    refine ⟨by omega, by omega, fun h => by omega, fun _ => this⟩
  · have hc := bitsN_in b 8
    have hbb : bitsB b = bitsN b 8 := if_pos ⟨h0, by omega⟩
    have h012 : i = 0 ∨ i = 1 ∨ i = 2 := by omega
    rcases h012 with rfl | rfl | rfl
    · exact ⟨(by show (0 : Int) ≤ 1; decide), (by show (1 : Int) ≤ 255; decide), fun _ => rfl, fun h => (by omega)⟩
    · exact ⟨h0, (by show b ≤ 255; omega), fun h => (by cases h), fun h => (by omega)⟩
    · refine ⟨?_, ?_, fun h => (by cases h), fun h => (by omega)⟩
      · show 0 ≤ bitsB b; rw [hbb]; exact hc.1
      · show bitsB b ≤ 255; rw [hbb]; have := hc.2; omega

/-- Told another number anywhere, a witness is not right. -/
theorem bent_no {b d : Int} (h0 : 0 ≤ b) (h1 : b < 256) (hd0 : 1 ≤ d) (hd1 : d ≤ 1008) {i : Nat} (hi0 : 1 ≤ i) (hi1 : i < 11) : sysSo 11 2 10 (csN 10) ((witOf b).set i (scAdd ((witOf b).getD i 0) d)) = false := by
  have hl := wit_len h0 h1
  obtain ⟨a0, a1, _, abit⟩ := wit_at h0 h1 hi1
  obtain ⟨z0, z1, zz, _⟩ := wit_at h0 h1 (i := 0) (by omega)
  have hz : (witOf b).getD 0 0 = 1 := zz rfl
  obtain ⟨v, hv⟩ : ∃ v, v = scAdd ((witOf b).getD i 0) d := ⟨_, rfl⟩
  have hv0 : 0 ≤ v := by rw [hv]; exact sca_nonneg _
  have hv1 : v < 1009 := by rw [hv]; exact sca_lt _
  have hne : v ≠ (witOf b).getD i 0 := by
    rw [hv, scAdd_eq]
    unfold sca
    omega
  rw [← hv]
  obtain ⟨m, hm⟩ : ∃ m, m = (witOf b).set i v := ⟨_, rfl⟩
  have hml : m.length = 11 := by rw [hm, List.length_set, hl]
  have hmi : m.getD i 0 = v := by rw [hm]; exact getD_set_same _ _ _ _ (by omega)
  have hmo : ∀ j, i ≠ j → m.getD j 0 = (witOf b).getD j 0 := fun j hj => by rw [hm]; exact getD_set_other _ _ _ _ _ hj
  cases hs : sysSo 11 2 10 (csN 10) ((witOf b).set i v) with
  | false => rfl
  | true =>
    exfalso
    rw [← hm] at hs
    have hw := (wit_so h0 h1).1
    unfold sysSo at hs hw
    simp only [Bool.and_eq_true] at hs hw
    have hs := hs.2.2.2
    have hw := hw.2.2.2
    have r8 : rowSo (hotL 0) (powL 2) (hotL 1) m = true := soN_at hs (k := 8) (by omega)
    have w8 : rowSo (hotL 0) (powL 2) (hotL 1) (witOf b) = true := soN_at hw (k := 8) (by omega)
    have r9 : rowSo (hotL 0) (powL 1) (hotL 2) m = true := soN_at hs (k := 9) (by omega)
    have w9 : rowSo (hotL 0) (powL 1) (hotL 2) (witOf b) = true := soN_at hw (k := 9) (by omega)
    by_cases hi3 : 3 ≤ i
    · have rk : rowSo (hotL i) (hotL i) (hotL i) m = true := by
        have h := soN_at hs (k := i - 3) (by omega)
        have hc : i = 3 ∨ i = 4 ∨ i = 5 ∨ i = 6 ∨ i = 7 ∨ i = 8 ∨ i = 9 ∨ i = 10 := by omega
        rcases hc with rfl | rfl | rfl | rfl | rfl | rfl | rfl | rfl <;> exact h
      unfold rowSo at rk
      rw [zdot_hot hi1 hml, hmi, sca_small hv0 hv1, decide_eq_true_eq] at rk
      have hb := square_bit hv0 hv1 rk
      have ha := abit hi3
      have hfl : v = 1 - (witOf b).getD (3 + (i - 3)) 0 := by
        rw [show 3 + (i - 3) = i by omega]
        omega
      have hmf : m = flip b (i - 3) := by
        rw [hm]
        unfold flip
        rw [← hfl, show 3 + (i - 3) = i by omega]
      rw [hmf, flip_no h0 h1 (by omega)] at r8
      cases r8
    · have hP : ∀ j, 3 ≤ j → m.getD j 0 = (witOf b).getD j 0 := fun j hj => hmo j (by omega)
      have h12 : i = 1 ∨ i = 2 := by omega
      rcases h12 with rfl | rfl
      · unfold rowSo at r8 w8
        rw [zdot_hot (by omega) hml, zdot_pow 2 hml hl hP, zdot_hot (by omega) hml, hmi, hmo 0 (by omega), decide_eq_true_eq] at r8
        rw [zdot_hot (by omega) hl, zdot_hot (by omega) hl, decide_eq_true_eq] at w8
        rw [w8, sca_small a0 (by omega), sca_small hv0 hv1] at r8
        exact hne r8.symm
      · unfold rowSo at r9 w9
        rw [zdot_hot (by omega) hml, zdot_pow 1 hml hl hP, zdot_hot (by omega) hml, hmi, hmo 0 (by omega), decide_eq_true_eq] at r9
        rw [zdot_hot (by omega) hl, zdot_hot (by omega) hl, decide_eq_true_eq] at w9
        rw [w9, sca_small a0 (by omega), sca_small hv0 hv1] at r9
        exact hne r9.symm

end Go.Proofs.Ytfiflcedbejamaa
