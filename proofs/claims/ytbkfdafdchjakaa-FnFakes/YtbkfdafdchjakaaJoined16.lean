/-
  Texts of one's own, joined.
-/
import Derived.Test.YtbkfdafdchjakaaProg
import Derived.Test.YtbkfdafdchjakaaJoined1
import Derived.WalkLawsBesides
import Derived.WalkSpells
import Derived.Test.YtbkfdafdchjakaaJoined2
import Derived.Test.YtbkfdafdchjakaaJoined6
import Derived.Test.YtbkfdafdchjakaaJoined8

/-
  The walks of the program's field.
  (-DROP-: what the seat lacks is left out.)
-/
namespace Go.Proofs.Ytbkfdafdchjakaa
open Go.RowKit

set_option maxHeartbeats 400000 in
set_option maxRecDepth 100000 in
theorem fieldOf_any (n : Int) (w : World) :
    Calls Try.prog 85 #[.int .i64 n] w fun e w' => e = .returned (.int .i64 (fp n)) ∧ w = w' := by
  have hb := tmod_bounds n
  by_cases h : Int.tmod n 12107 < 0
  · have he := tmod_neg_fp h
    go_enter Try.func85, Try.ntmps85
    go_wp2
    go_ret
    exact ⟨rfl, rfl⟩
  · have he := tmod_nonneg_fp h
    go_enter Try.func85, Try.ntmps85
    go_wp2
    go_ret
    exact ⟨rfl, rfl⟩

set_option maxHeartbeats 400000 in
set_option maxRecDepth 100000 in
theorem plus_any (a b : Int) (a0 : 0 ≤ a) (a1 : a < 12107) (b0 : 0 ≤ b) (b1 : b < 12107) (w : World) :
    Calls Try.prog 87 #[.int .i64 a, .int .i64 b] w fun e w' => e = .returned (.int .i64 (fp (a + b))) ∧ w = w' := by
  have he := tmod_fp (n := a + b) (by omega)
  have h0 := fp_nonneg (a + b)
  have h1 := fp_lt (a + b)
  go_enter Try.func87, Try.ntmps87
  go_wp2
  go_ret
  exact ⟨rfl, rfl⟩

set_option maxHeartbeats 400000 in
set_option maxRecDepth 100000 in
theorem minus_any (a b : Int) (a0 : 0 ≤ a) (a1 : a < 12107) (b0 : 0 ≤ b) (b1 : b < 12107) (w : World) :
    Calls Try.prog 86 #[.int .i64 a, .int .i64 b] w fun e w' => e = .returned (.int .i64 (fp (a - b))) ∧ w = w' := by
  have he : Int.tmod (a + 12107 - b) 12107 = fp (a - b) := by
    rw [tmod_fp (n := a + 12107 - b) (by omega), ← fp_put (a - b)]
    congr 1; omega
  have h0 := fp_nonneg (a - b)
  have h1 := fp_lt (a - b)
  go_enter Try.func86, Try.ntmps86
  go_wp2
  go_ret
  exact ⟨rfl, rfl⟩

set_option maxHeartbeats 400000 in
set_option maxRecDepth 100000 in
theorem times_any (a b : Int) (a0 : 0 ≤ a) (a1 : a < 12107) (b0 : 0 ≤ b) (b1 : b < 12107) (w : World) :
    Calls Try.prog 79 #[.int .i64 a, .int .i64 b] w fun e w' => e = .returned (.int .i64 (fp (a * b))) ∧ w = w' := by
  have hp0 := prod_nonneg a0 b0
  have hp1 := prod_le a0 a1 b0 b1
  have he := tmod_fp (n := a * b) hp0
  have h0 := fp_nonneg (a * b)
  have h1 := fp_lt (a * b)
  go_enter Try.func79, Try.ntmps79
  go_wp2
  go_ret
  exact ⟨rfl, rfl⟩

theorem times_nat (a b : Nat) (ha : a < 12107) (hb : b < 12107) (w : World) :
    Calls Try.prog 79 #[.int .i64 (a : Int), .int .i64 (b : Int)] w fun e w' => e = .returned (.int .i64 ((a * b % 12107 : Nat) : Int)) ∧ w = w' := by
  have h := times_any a b (by omega) (by omega) (by omega) (by omega) w
  rw [show fp ((a : Int) * (b : Int)) = ((a * b % 12107 : Nat) : Int) by unfold fp; omega] at h
  exact h

set_option maxHeartbeats 400000 in
set_option maxRecDepth 100000 in
theorem power_neg (a n : Int) (hn : n < 0) (w : World) :
    Calls Try.prog 105 #[.int .i64 a, .int .i64 n] w fun e w' => e = .returned (.int .i64 0) ∧ w = w' := by
  go_enter Try.func105, Try.ntmps105
  go_wp2
  go_ret
  exact ⟨rfl, rfl⟩

set_option maxHeartbeats 800000 in
set_option maxRecDepth 100000 in
theorem power_nat (a n : Nat) (ha : a < 12107) (hn : n ≤ 9223372036854775807) (w : World) :
    Calls Try.prog 105 #[.int .i64 (a : Int), .int .i64 (n : Int)] w fun e w' => e = .returned (.int .i64 ((a ^ n % 12107 : Nat) : Int)) ∧ w = w' := by
  have hn0 : ¬ (n : Int) < 0 := by omega
  obtain ⟨R, hR⟩ : ∃ R, R = a ^ n % 12107 := ⟨_, rfl⟩
  rw [← hR]
  have HR : Hid (R = a ^ n % 12107) := hR
  clear hR
  go_enter Try.func105, Try.ntmps105
  go_wp2
  go_loopw [1, 5, 6] (fun m x b wr => ∃ k r s : Nat, m = .int .i64 (k : Int) ∧ k ≤ n ∧ x = .int .i64 (r : Int) ∧ b = .int .i64 (s : Int) ∧ r < 12107 ∧ s < 12107 ∧ Hid (r * s ^ k % 12107 = R) ∧ w = wr) (fun m _ _ _ => (intOf m).toNat)
  case atStart => exact ⟨n, 1, a, rfl, Nat.le_refl _, rfl, rfl, by omega, ha, (show 1 * a ^ n % 12107 = R by rw [Nat.one_mul, HR.out]), rfl⟩
  case round =>
    obtain ⟨k, r, s, rfl, hk, rfl, rfl, hr, hs, HP, rfl⟩ := hrel
    by_cases h0 : 0 < k
    · have h0' : (0 : Int) < (k : Int) := by omega
      have hq : Int.tdiv (k : Int) 2 = ((k / 2 : Nat) : Int) := by rw [Int.tdiv_eq_ediv_of_nonneg (by omega)]; omega
      have hqb : k / 2 < k := by omega
      have HS2 : Hid (s * s % 12107 < 12107) := Nat.mod_lt _ (by decide)
      have HR2 : Hid (r * s % 12107 < 12107) := Nat.mod_lt _ (by decide)
      have HC : Hid (∀ w, Calls Try.prog 79 #[.int .i64 (r : Int), .int .i64 (s : Int)] w fun e w' => e = .returned (.int .i64 ((r * s % 12107 : Nat) : Int)) ∧ w = w') := times_nat r s hr hs
      have HD : Hid (∀ w, Calls Try.prog 79 #[.int .i64 (s : Int), .int .i64 (s : Int)] w fun e w' => e = .returned (.int .i64 ((s * s % 12107 : Nat) : Int)) ∧ w = w') := times_nat s s hs hs
      by_cases h2 : k % 2 = 1
      · have h2' : Int.tmod (k : Int) 2 = 1 := by rw [Int.tmod_eq_emod_of_nonneg (by omega)]; omega
        have HN : Hid (r * s % 12107 * (s * s % 12107) ^ (k / 2) % 12107 = R) := (pow_odd r s k h2).trans HP.out
        generalize r * s % 12107 = r2 at HN HC HR2
        generalize s * s % 12107 = s2 at HN HD HS2
        generalize k / 2 = k2 at HN hq hqb
        clear h2 HP
        go_wp2_with fail
        refine (HC.out _).mono ?_
        rintro e w1 ⟨rfl, rfl⟩
        go_wp2_with fail
        refine (HD.out _).mono ?_
        rintro e w1 ⟨rfl, rfl⟩
        go_wp2
        go_roundw
        case rel => exact ⟨k2, r2, s2, by go_num, by omega, rfl, rfl, HR2.out, HS2.out, HN, by trivial⟩
        case measure => simp [intOf]; omega
      · have h2' : Int.tmod (k : Int) 2 = 0 := by rw [Int.tmod_eq_emod_of_nonneg (by omega)]; omega
        have HN : Hid (r * (s * s % 12107) ^ (k / 2) % 12107 = R) := (pow_even r s k (by omega)).trans HP.out
        generalize s * s % 12107 = s2 at HN HD HS2
        generalize k / 2 = k2 at HN hq hqb
        clear h2 HP
        go_wp2_with fail
        refine (HD.out _).mono ?_
        rintro e w1 ⟨rfl, rfl⟩
        go_wp2
        go_roundw
        case rel => exact ⟨k2, r, s2, by go_num, by omega, rfl, rfl, hr, HS2.out, HN, by trivial⟩
        case measure => simp [intOf]; omega
    · have h0' : ¬ (0 : Int) < (k : Int) := by omega
      obtain rfl : k = 0 := by omega
      have HF : Hid (R = r) := by
        have h := HP.out
        rw [Nat.pow_zero, Nat.mul_one, Nat.mod_eq_of_lt hr] at h
        exact h.symm
      clear HP
      go_wp2
      go_ret
      exact ⟨by rw [HF.out]; rfl, rfl⟩

theorem power_any (a n : Int) (a0 : 0 ≤ a) (a1 : a < 12107) (h1 : n ≤ 9223372036854775807) (w : World) :
    Calls Try.prog 105 #[.int .i64 a, .int .i64 n] w fun e w' => e = .returned (.int .i64 (fpPow a n)) ∧ w = w' := by
  by_cases hn : n < 0
  · rw [fpPow_neg a hn]; exact power_neg a n hn w
  · obtain ⟨k, rfl⟩ : ∃ k : Nat, n = k := ⟨n.toNat, by omega⟩
    obtain ⟨b, rfl⟩ : ∃ b : Nat, a = b := ⟨a.toNat, by omega⟩
    rw [fpPow_nat, nat_small (by omega)]
    exact power_nat b k (by omega) (by omega) w

set_option maxHeartbeats 400000 in
set_option maxRecDepth 100000 in
theorem inverse_any (a : Int) (a0 : 0 ≤ a) (a1 : a < 12107) (w : World) :
    Calls Try.prog 103 #[.int .i64 a] w fun e w' => e = .returned (.int .i64 (fpPow a 12105)) ∧ w = w' := by
  have HC : Hid (∀ w, Calls Try.prog 105 #[.int .i64 a, .int .i64 12105] w fun e w' => e = .returned (.int .i64 (fpPow a 12105)) ∧ w = w') := power_any a 12105 a0 a1 (by decide)
  go_enter Try.func103, Try.ntmps103
  go_wp2_with fail
  refine (HC.out _).mono ?_
  rintro e w1 ⟨rfl, rfl⟩
  go_wp2
  go_ret
  exact ⟨rfl, rfl⟩

set_option maxHeartbeats 400000 in
set_option maxRecDepth 100000 in
theorem iOk_any (a : Int) (w : World) :
    Calls Try.prog 78 #[.int .i64 a] w fun e w' => e = .returned (.bool (fpOk a)) ∧ w = w' := by
  by_cases h0 : 0 ≤ a
  · by_cases h1 : a < 12107
    · rw [show fpOk a = true from decide_eq_true ⟨h0, h1⟩]
      go_enter Try.func78, Try.ntmps78
      go_wp2
      go_ret
      exact ⟨rfl, rfl⟩
    · rw [show fpOk a = false from decide_eq_false (by omega)]
      go_enter Try.func78, Try.ntmps78
      go_wp2
      go_ret
      exact ⟨rfl, rfl⟩
  · rw [show fpOk a = false from decide_eq_false (by omega)]
    go_enter Try.func78, Try.ntmps78
    go_wp2
    go_ret
    exact ⟨rfl, rfl⟩

theorem fpPow_fp (a n : Int) : fpPow (fp a) n = fpPow a n := by unfold fpPow nat; rw [fp_fp]

theorem rootX_fp (a : Int) : rootX (fp a) = rootX a := fpPow_fp a 3027
theorem rootB_fp (a : Int) : rootB (fp a) = rootB a := by unfold rootB; rw [rootX_fp, fp_fp]
theorem rootV_fp (a : Int) : rootV (fp a) = rootV a := by unfold rootV; rw [rootB_fp, rootX_fp]

end Go.Proofs.Ytbkfdafdchjakaa

/-
  The walks of the specification's field.
  (-DROP-: what the seat lacks is left out.)
-/
namespace Go.Proofs.Ytbkfdafdchjakaa
open Go.RowKit

set_option maxHeartbeats 400000 in
set_option maxRecDepth 100000 in
theorem sIn_any (a : Int) (w : World) :
    Calls Try.prog 67 #[.int .i64 a, .int .i64 0, .int .i64 12106] w fun e w' => e = .returned (.bool (fpOk a)) ∧ w = w' := by
  by_cases h0 : 0 ≤ a
  · by_cases h1 : a ≤ 12106
    · rw [show fpOk a = true from decide_eq_true ⟨h0, by omega⟩]
      go_enter Try.func67, Try.ntmps67
      go_wp2
      go_ret
      exact ⟨rfl, rfl⟩
    · rw [show fpOk a = false from decide_eq_false (by omega)]
      go_enter Try.func67, Try.ntmps67
      go_wp2
      go_ret
      exact ⟨rfl, rfl⟩
  · rw [show fpOk a = false from decide_eq_false (by omega)]
    go_enter Try.func67, Try.ntmps67
    go_wp2
    go_ret
    exact ⟨rfl, rfl⟩

end Go.Proofs.Ytbkfdafdchjakaa

/-
  The walks of the specification's points.
  (-DROP-: what the seat lacks is left out.)
-/
namespace Go.Proofs.Ytbkfdafdchjakaa
open Go.RowKit

/-- A point as a value. -/
abbrev pv (P : Pt) : Value := .agg #[.int .i64 P.1, .int .i64 P.2.1, .bool P.2.2]

theorem infoP : (Try.prog.info? 35).map (·.size) = some 3 := by kernel_rfl

theorem ones3 (a b : Int) (c : Bool) : (#[Value.int .i64 a, Value.int .i64 b, Value.bool c]).all (·.oneCell') = true := by simp [Value.oneCell']

/-- A point's cells. -/
def pc (P : Pt) : Array Value := #[.int .i64 P.1, .int .i64 P.2.1, .bool P.2.2]

/-- The slope of two right points, and whether there is one. -/
def pSlope (P Q : Pt) : Int × Bool :=
  if P.1 ≠ Q.1 then (slopeC P.1 P.2.1 Q.1 Q.2.1, true) else if fpAdd P.2.1 Q.2.1 = 0 then (0, false) else (slopeT P.1 P.2.1, true)

theorem padd_slope (P Q : Pt) : pAdd P Q = if P.2.2 = true then Q else if Q.2.2 = true then P else if (pSlope P Q).2 = true then pThird P.1 P.2.1 Q.1 (pSlope P Q).1 else pZ := by
  unfold pAdd pSlope
  split
  · rfl
  · split
    · rfl
    · by_cases h1 : P.1 = Q.1
      · by_cases h2 : fpAdd P.2.1 Q.2.1 = 0
        · simp [h1, h2]
        · simp [h1, h2]
      · simp [h1]

end Go.Proofs.Ytbkfdafdchjakaa
