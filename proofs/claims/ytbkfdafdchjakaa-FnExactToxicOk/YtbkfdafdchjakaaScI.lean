/-
  The walks of the program's scalars.
  (-DROP-: what the seat lacks is left out.)
-/
import Derived.Test.YtbkfdafdchjakaaProg
import Derived.Test.YtbkfdafdchjakaaScPure
import Derived.WalkLawsBesides
import Derived.WalkSpells

namespace Go.Proofs.Ytbkfdafdchjakaa
open Go.RowKit

set_option maxHeartbeats 400000 in
set_option maxRecDepth 100000 in
theorem iScOf_any (n : Int) (w : World) :
    Calls Try.prog 58 #[.int .i64 n] w fun e w' => e = .returned (.int .i64 (sca n)) ∧ w = w' := by
  have hb := tmod_bounds_sca n
  by_cases h : Int.tmod n 1009 < 0
  · have he := tmod_neg_sca h
    go_enter Try.func58, Try.ntmps58
    go_wp2
    go_ret
    exact ⟨rfl, rfl⟩
  · have he := tmod_nonneg_sca h
    go_enter Try.func58, Try.ntmps58
    go_wp2
    go_ret
    exact ⟨rfl, rfl⟩

set_option maxHeartbeats 400000 in
set_option maxRecDepth 100000 in
theorem iScAdd_any (a b : Int) (w : World) :
    Calls Try.prog 28 #[.int .i64 a, .int .i64 b] w fun e w' => e = .returned (.int .i64 (scAdd a b)) ∧ w = w' := by
  have ha0 := sca_nonneg a
  have ha1 := sca_lt a
  have hb0 := sca_nonneg b
  have hb1 := sca_lt b
  have HE : Hid (scAdd a b = sca (sca a + sca b)) := rfl
  go_enter Try.func28, Try.ntmps28
  go_wp2_with (go_at_call 58; refine (iScOf_any _ _).mono ?_; rintro e w1 ⟨rfl, rfl⟩)
  go_ret
  exact ⟨by rw [HE.out]; rfl, rfl⟩

set_option maxHeartbeats 400000 in
set_option maxRecDepth 100000 in
theorem iScMul_any (a b : Int) (w : World) :
    Calls Try.prog 30 #[.int .i64 a, .int .i64 b] w fun e w' => e = .returned (.int .i64 (scMul a b)) ∧ w = w' := by
  have hp := sca_prod a b
  have HE : Hid (scMul a b = sca (sca a * sca b)) := rfl
  go_enter Try.func30, Try.ntmps30
  go_wp2_with (go_at_call 58; refine (iScOf_any _ _).mono ?_; rintro e w1 ⟨rfl, rfl⟩)
  go_ret
  exact ⟨by rw [HE.out]; rfl, rfl⟩

set_option maxHeartbeats 400000 in
set_option maxRecDepth 100000 in
theorem iScNeg_any (a : Int) (w : World) :
    Calls Try.prog 96 #[.int .i64 a] w fun e w' => e = .returned (.int .i64 (scNeg a)) ∧ w = w' := by
  have ha0 := sca_nonneg a
  have ha1 := sca_lt a
  have HE : Hid (scNeg a = sca (-sca a)) := rfl
  go_enter Try.func96, Try.ntmps96
  go_wp2_with (go_at_call 58; refine (iScOf_any _ _).mono ?_; rintro e w1 ⟨rfl, rfl⟩)
  go_ret
  exact ⟨by rw [HE.out]; rfl, rfl⟩

set_option maxHeartbeats 800000 in
set_option maxRecDepth 100000 in
theorem len64_any (w : World) :
    Calls Try.prog 84 #[.int .u64 1007] w fun e w' => e = .returned (.int .i64 10) ∧ w = w' := by
  go_enter Try.func84, Try.ntmps84
  go_wp2
  go_ret
  exact ⟨by kernel_rfl, rfl⟩

set_option maxHeartbeats 800000 in
set_option maxRecDepth 100000 in
theorem len_any (w : World) :
    Calls Try.prog 59 #[.int .u64 1007] w fun e w' => e = .returned (.int .i64 10) ∧ w = w' := by
  go_enter Try.func59, Try.ntmps59
  go_wp2_with (go_at_call 84; refine (len64_any _).mono ?_; rintro e w1 ⟨rfl, rfl⟩)
  go_ret
  exact ⟨rfl, rfl⟩

set_option maxHeartbeats 800000 in
set_option maxRecDepth 100000 in
theorem iScInv_any (a : Int) (w : World) :
    Calls Try.prog 31 #[.int .i64 a] w fun e w' => e = .returned (.int .i64 (scInv a)) ∧ w = w' := by
  obtain ⟨R, hR⟩ : ∃ R, R = scn a ^ eS % 1009 := ⟨_, rfl⟩
  have HV : Hid (scInv a = (R : Int)) := by rw [hR]; rfl
  have HR : Hid (R = scn a ^ eS % 1009) := hR
  clear hR
  go_enter Try.func31, Try.ntmps31
  go_wp2_with (go_at_call 59; refine (len_any _).mono ?_; rintro e w1 ⟨rfl, rfl⟩)
  go_loopw [3, 4, 8] (fun x b i wr => ∃ (k r : Nat) (s : Int), i = .int .i64 (k : Int) ∧ k ≤ 10 ∧ x = .int .i64 (r : Int) ∧ b = .int .i64 s ∧ r < 1009 ∧ Hid (r * scn s ^ (eS / 2 ^ k) % 1009 = R) ∧ w = wr) (fun _ _ i _ => 10 - (intOf i).toNat)
  case atStart => exact ⟨0, 1, a, rfl, by omega, rfl, rfl, by omega, (show 1 * scn a ^ (eS / 2 ^ 0) % 1009 = R by rw [Nat.one_mul, Nat.pow_zero, Nat.div_one, HR.out]), rfl⟩
  case round =>
    obtain ⟨k, r, s, rfl, hk, rfl, rfl, hr, HP, rfl⟩ := hrel
    by_cases h0 : k < 10
    · have h0' : (k : Int) < 10 := by omega
      have HS2 : Hid (scn s * scn s % 1009 < 1009) := Nat.mod_lt _ (by decide)
      have HR2 : Hid (r * scn s % 1009 < 1009) := Nat.mod_lt _ (by decide)
      have HC : Hid (∀ w, Calls Try.prog 30 #[.int .i64 (r : Int), .int .i64 s] w fun e w' => e = .returned (.int .i64 ((r * scn s % 1009 : Nat) : Int)) ∧ w = w') := fun w => by
        have h := iScMul_any r s w
        rw [scMul_nat, scn_small hr] at h
        exact h
      have HD : Hid (∀ w, Calls Try.prog 30 #[.int .i64 s, .int .i64 s] w fun e w' => e = .returned (.int .i64 ((scn s * scn s % 1009 : Nat) : Int)) ∧ w = w') := fun w => by
        have h := iScMul_any s s w
        rw [scMul_nat] at h
        exact h
      have HE : Hid (eS / 2 ^ (k + 1) = eS / 2 ^ k / 2) := by show _ = _; rw [Nat.pow_succ, Nat.div_div_eq_div_mul]
      obtain ⟨m, hm⟩ : ∃ m, m = eS / 2 ^ k := ⟨_, rfl⟩
      have HM : Hid (m = eS / 2 ^ k) := hm
      have hml : m ≤ 1007 := by rw [hm]; exact Nat.div_le_self _ _
      rw [← hm] at HP HE
      clear hm
      have hshr : (1007 : Int) / 2 ^ k = (m : Int) := by
        rw [HM.out, Int.natCast_ediv, Int.natCast_pow]; rfl
      by_cases h2 : m % 2 = 1
      · have h2' : Int.tmod (m : Int) 2 = 1 := by rw [Int.tmod_eq_emod_of_nonneg (by omega)]; omega
        have HN : Hid (r * scn s % 1009 * (scn s * scn s % 1009) ^ (m / 2) % 1009 = R) := (sca_odd r (scn s) m h2).trans HP.out
        rw [← HE.out] at HN
        generalize r * scn s % 1009 = r2 at HN HC HR2
        generalize hS2 : scn s * scn s % 1009 = s2 at HN HD HS2
        have HN2 : Hid (r2 * scn (s2 : Int) ^ (eS / 2 ^ (k + 1)) % 1009 = R) := by rw [scn_small HS2.out]; exact HN
        clear h2 HP HN hS2 HE HM
        go_wp2_with fail
        refine (HC.out _).mono ?_
        rintro e w1 ⟨rfl, rfl⟩
        go_wp2_with fail
        refine (HD.out _).mono ?_
        rintro e w1 ⟨rfl, rfl⟩
        go_wp2
        go_roundw
        case rel => exact ⟨k + 1, r2, s2, by go_num, by omega, rfl, rfl, HR2.out, HN2, by trivial⟩
        case measure => simp [intOf]; omega
      · have h2' : Int.tmod (m : Int) 2 = 0 := by rw [Int.tmod_eq_emod_of_nonneg (by omega)]; omega
        have HN : Hid (r * (scn s * scn s % 1009) ^ (m / 2) % 1009 = R) := (sca_even r (scn s) m (by omega)).trans HP.out
        rw [← HE.out] at HN
        generalize hS2 : scn s * scn s % 1009 = s2 at HN HD HS2
        have HN2 : Hid (r * scn (s2 : Int) ^ (eS / 2 ^ (k + 1)) % 1009 = R) := by rw [scn_small HS2.out]; exact HN
        clear h2 HP HN hS2 HE HM HC HR2
        go_wp2_with fail
        refine (HD.out _).mono ?_
        rintro e w1 ⟨rfl, rfl⟩
        go_wp2
        go_roundw
        case rel => exact ⟨k + 1, r, s2, by go_num, by omega, rfl, rfl, hr, HN2, by trivial⟩
        case measure => simp [intOf]; omega
    · have h0' : ¬ (k : Int) < 10 := by omega
      obtain rfl : k = 10 := by omega
      have HF : Hid (R = r) := by
        have h := HP.out
        rw [show eS / 2 ^ 10 = 0 from rfl, Nat.pow_zero, Nat.mul_one, Nat.mod_eq_of_lt hr] at h
        exact h.symm
      clear HP
      go_wp2
      go_ret
      exact ⟨by rw [HV.out, HF.out]; rfl, rfl⟩

end Go.Proofs.Ytbkfdafdchjakaa
