/-
  LevelsOf alone: the walks of the program's and the specification's, and of its exact law (for a seat that has no other function of chapter 10).
-/
import Derived.Test.YtkiljlmihoaaaaaBlk
import Derived.WalkKit
namespace Go.Proofs.Ytkiljlmihoaaaaa
open Go.RowKit

/-- The levels of so many leaves. -/
def lvN (n : Nat) : Nat := if n ≤ 1 then 0 else if n ≤ 2 then 1 else if n ≤ 4 then 2 else if n ≤ 8 then 3 else if n ≤ 16 then 4 else 5
def lvI (n : Int) : Int := if 0 ≤ n ∧ n ≤ 32 then (lvN n.toNat : Int) else -1

theorem lvN_le (n : Nat) : lvN n ≤ 5 := by
  unfold lvN
  repeat' split
  all_goals omega
theorem lvN_pow {n : Nat} (h : n ≤ 32) : n ≤ 2 ^ lvN n := by
  unfold lvN
  repeat' split
  all_goals omega
/-- A smaller number is too small. -/
theorem lvN_least {n k : Nat} (h : k < lvN n) : 2 ^ k < n := by
  unfold lvN at h
  repeat' split at h
  all_goals first
    | omega
    | (have : k = 0 ∨ k = 1 ∨ k = 2 ∨ k = 3 ∨ k = 4 := by omega
       rcases this with rfl | rfl | rfl | rfl | rfl <;> omega)

set_option maxHeartbeats 400000 in
set_option maxRecDepth 100000 in
theorem sBetween_any (x a b : Int) (w : World) :
    Calls Try.prog 6 #[.int .i64 x, .int .i64 a, .int .i64 b] w fun e w' => e = .returned (.bool (decide (a ≤ x ∧ x ≤ b))) ∧ w = w' := by
  by_cases h0 : a ≤ x
  · by_cases h1 : x ≤ b
    · rw [decide_eq_true ⟨h0, h1⟩]
      go_enter Try.func6, Try.ntmps6
      go_wp2
      go_ret
      exact ⟨rfl, rfl⟩
    · rw [decide_eq_false (by omega)]
      go_enter Try.func6, Try.ntmps6
      go_wp2
      go_ret
      exact ⟨rfl, rfl⟩
  · rw [decide_eq_false (by omega)]
    go_enter Try.func6, Try.ntmps6
    go_wp2
    go_ret
    exact ⟨rfl, rfl⟩

set_option maxHeartbeats 1600000 in
set_option maxRecDepth 100000 in
theorem sLevels_any (n : Int) (w : World) :
    Calls Try.prog 4 #[.int .i64 n] w fun e w' => e = .returned (.int .i64 (lvI n)) ∧ w = w' := by
  have HB : Hid (∀ w, Calls Try.prog 6 #[.int .i64 n, .int .i64 0, .int .i64 32] w fun e w' => e = .returned (.bool (decide (0 ≤ n ∧ n ≤ 32))) ∧ w = w') := sBetween_any n 0 32
  by_cases h : 0 ≤ n ∧ n ≤ 32
  · rw [decide_eq_true h] at HB
    obtain ⟨L, hL⟩ : ∃ L, L = lvN n.toNat := ⟨_, rfl⟩
    have HV : Hid (lvI n = (L : Int)) := by unfold lvI; rw [if_pos h, hL]; rfl
    have hL5 : L ≤ 5 := by rw [hL]; exact lvN_le _
    have HP : Hid (n.toNat ≤ 2 ^ L) := by rw [hL]; exact lvN_pow (by omega)
    have HQ : Hid (∀ k, k < L → 2 ^ k < n.toNat) := by rw [hL]; exact fun k hk => lvN_least hk
    clear hL
    go_enter Try.func4, Try.ntmps4
    go_wp2_with fail
    refine (HB.out _).mono ?_
    rintro e w1 ⟨rfl, rfl⟩
    go_wp2
    go_loopw [3] (fun i wr => ∃ k : Nat, i = .int .i64 (k : Int) ∧ k ≤ L ∧ w = wr) (fun i _ => 6 - (intOf i).toNat)
    case atStart => exact ⟨0, rfl, Nat.zero_le _, rfl⟩
    case round =>
      obtain ⟨k, rfl, hk, rfl⟩ := hrel
      have hk6 : k = 0 ∨ k = 1 ∨ k = 2 ∨ k = 3 ∨ k = 4 ∨ k = 5 := by omega
      by_cases hlt : k < L
      · have hlt' := HQ.out k hlt
        clear HP HQ HB
        rcases hk6 with rfl | rfl | rfl | rfl | rfl | rfl
        all_goals simp only [Nat.reducePow] at hlt'
        iterate 5 (rotate_left)
        · omega
        all_goals go_wp2
        · go_roundw
          case rel => exact ⟨1, by go_num, by omega, by trivial⟩
          case measure => simp [intOf]
        · go_roundw
          case rel => exact ⟨2, by go_num, by omega, by trivial⟩
          case measure => simp [intOf]
        · go_roundw
          case rel => exact ⟨3, by go_num, by omega, by trivial⟩
          case measure => simp [intOf]
        · go_roundw
          case rel => exact ⟨4, by go_num, by omega, by trivial⟩
          case measure => simp [intOf]
        · go_roundw
          case rel => exact ⟨5, by go_num, by omega, by trivial⟩
          case measure => simp [intOf]
      · obtain rfl : k = L := by omega
        have hge := HP.out
        clear HP HQ HB
        rcases hk6 with rfl | rfl | rfl | rfl | rfl | rfl
        all_goals simp only [Nat.reducePow] at hge
        all_goals go_wp2
        all_goals go_ret
        all_goals exact ⟨by rw [HV.out]; rfl, rfl⟩
  · rw [decide_eq_false h] at HB
    have HV : Hid (lvI n = -1) := if_neg h
    go_enter Try.func4, Try.ntmps4
    go_wp2_with fail
    refine (HB.out _).mono ?_
    rintro e w1 ⟨rfl, rfl⟩
    go_wp2
    go_ret
    exact ⟨by rw [HV.out]; rfl, rfl⟩

set_option maxHeartbeats 1600000 in
set_option maxRecDepth 100000 in
theorem iLevels_same (n : Int) (w : World) :
    Calls Try.prog 5 #[.int .i64 n] w fun e w' => e = .returned (.int .i64 (lvI n)) ∧ w = w' := by
  by_cases h : 0 ≤ n ∧ n ≤ 32
  · have h1 : ¬ n < 0 := by omega
    have h2 : ¬ (32 : Int) < n := by omega
    obtain ⟨L, hL⟩ : ∃ L, L = lvN n.toNat := ⟨_, rfl⟩
    have HV : Hid (lvI n = (L : Int)) := by unfold lvI; rw [if_pos h, hL]; rfl
    have hL5 : L ≤ 5 := by rw [hL]; exact lvN_le _
    have HP : Hid (n.toNat ≤ 2 ^ L) := by rw [hL]; exact lvN_pow (by omega)
    have HQ : Hid (∀ k, k < L → 2 ^ k < n.toNat) := by rw [hL]; exact fun k hk => lvN_least hk
    clear hL
    go_enter Try.func5, Try.ntmps5
    go_wp2
    go_loopw [3] (fun i wr => ∃ k : Nat, i = .int .i64 (k : Int) ∧ k ≤ L ∧ w = wr) (fun i _ => 6 - (intOf i).toNat)
    case atStart => exact ⟨0, rfl, Nat.zero_le _, rfl⟩
    case round =>
      obtain ⟨k, rfl, hk, rfl⟩ := hrel
      have hk6 : k = 0 ∨ k = 1 ∨ k = 2 ∨ k = 3 ∨ k = 4 ∨ k = 5 := by omega
      by_cases hlt : k < L
      · have hlt' := HQ.out k hlt
        clear HP HQ
        rcases hk6 with rfl | rfl | rfl | rfl | rfl | rfl
        all_goals simp only [Nat.reducePow] at hlt'
        iterate 5 (rotate_left)
        · omega
        all_goals go_wp2
        · go_roundw
          case rel => exact ⟨1, by go_num, by omega, by trivial⟩
          case measure => simp [intOf]
        · go_roundw
          case rel => exact ⟨2, by go_num, by omega, by trivial⟩
          case measure => simp [intOf]
        · go_roundw
          case rel => exact ⟨3, by go_num, by omega, by trivial⟩
          case measure => simp [intOf]
        · go_roundw
          case rel => exact ⟨4, by go_num, by omega, by trivial⟩
          case measure => simp [intOf]
        · go_roundw
          case rel => exact ⟨5, by go_num, by omega, by trivial⟩
          case measure => simp [intOf]
      · obtain rfl : k = L := by omega
        have hge := HP.out
        clear HP HQ
        rcases hk6 with rfl | rfl | rfl | rfl | rfl | rfl
        all_goals simp only [Nat.reducePow] at hge
        all_goals go_wp2
        all_goals go_ret
        all_goals exact ⟨by rw [HV.out]; rfl, rfl⟩
  · have HV : Hid (lvI n = -1) := if_neg h
    by_cases h1 : n < 0
    · clear h
      go_enter Try.func5, Try.ntmps5
      go_wp2
      go_ret
      exact ⟨by rw [HV.out]; rfl, rfl⟩
    · have h2 : (32 : Int) < n := by omega
      clear h
      go_enter Try.func5, Try.ntmps5
      go_wp2
      go_ret
      exact ⟨by rw [HV.out]; rfl, rfl⟩

theorem iLevels_any (n : Int) (w : World) :
    Calls Try.prog 5 #[.int .i64 n] w fun e w' => e = .returned (.int .i64 (lvI n)) ∧ Below w.heap.size w w' := bel_same (iLevels_same n w)

set_option maxRecDepth 100000 in
theorem lawLevelsOf (n : Int) (_hn : (Lit.int .i64 n).wf = true) (w : World) :
    Calls Try.prog 3 #[.int .i64 n] w fun e w' => e = .returned (.bool true) ∧ Below w.heap.size w w' := by
  have HS : Hid (∀ w, Calls Try.prog 4 #[.int .i64 n] w fun e w' => e = .returned (.int .i64 (lvI n)) ∧ w = w') := sLevels_any n
  have HI : Hid (∀ w, Calls Try.prog 5 #[.int .i64 n] w fun e w' => e = .returned (.int .i64 (lvI n)) ∧ Below w.heap.size w w') := iLevels_any n
  generalize lvI n = v at HS HI
  go_enter Try.func3, Try.ntmps3
  go_wp2_with fail
  refine (HS.out _).mono ?_
  rintro e w1 ⟨rfl, rfl⟩
  go_wp2_with fail
  refine (HI.out _).mono ?_
  rintro e w1 ⟨rfl, hb⟩
  go_wp2
  go_ret
  exact ⟨rfl, hb⟩

end Go.Proofs.Ytkiljlmihoaaaaa
