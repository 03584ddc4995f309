/-
  Texts of one's own, joined.
-/
import Derived.Test.YtjlijflfepffiaaProg
import Derived.Test.YtjlijflfepffiaaJoined1
import Derived.WalkLawsBesides
import Derived.WalkSpells
import Derived.StillTail
import Derived.StillTailTactics
import Derived.Lib.MinMax

/-
  The walks of the program's scalars.
  (-DROP-: what the seat lacks is left out.)
-/
namespace Go.Proofs.Ytjlijflfepffiaa
open Go.RowKit

set_option maxHeartbeats 400000 in
set_option maxRecDepth 100000 in
theorem iScOf_any (n : Int) (w : World) :
    Calls Try.prog 103 #[.int .i64 n] w fun e w' => e = .returned (.int .i64 (sca n)) ∧ w = w' := by
  have hb := tmod_bounds_sca n
  by_cases h : Int.tmod n 1009 < 0
  · have he := tmod_neg_sca h
    go_enter Try.func103, Try.ntmps103
    go_wp2
    go_ret
    exact ⟨rfl, rfl⟩
  · have he := tmod_nonneg_sca h
    go_enter Try.func103, Try.ntmps103
    go_wp2
    go_ret
    exact ⟨rfl, rfl⟩

set_option maxHeartbeats 400000 in
set_option maxRecDepth 100000 in
theorem iScAdd_any (a b : Int) (w : World) :
    Calls Try.prog 86 #[.int .i64 a, .int .i64 b] w fun e w' => e = .returned (.int .i64 (scAdd a b)) ∧ w = w' := by
  have ha0 := sca_nonneg a
  have ha1 := sca_lt a
  have hb0 := sca_nonneg b
  have hb1 := sca_lt b
  have HE : Hid (scAdd a b = sca (sca a + sca b)) := rfl
  go_enter Try.func86, Try.ntmps86
  go_wp2_with (go_at_call 103; refine (iScOf_any _ _).mono ?_; rintro e w1 ⟨rfl, rfl⟩)
  go_ret
  exact ⟨by rw [HE.out]; rfl, rfl⟩

set_option maxHeartbeats 400000 in
set_option maxRecDepth 100000 in
theorem iScMul_any (a b : Int) (w : World) :
    Calls Try.prog 84 #[.int .i64 a, .int .i64 b] w fun e w' => e = .returned (.int .i64 (scMul a b)) ∧ w = w' := by
  have hp := sca_prod a b
  have HE : Hid (scMul a b = sca (sca a * sca b)) := rfl
  go_enter Try.func84, Try.ntmps84
  go_wp2_with (go_at_call 103; refine (iScOf_any _ _).mono ?_; rintro e w1 ⟨rfl, rfl⟩)
  go_ret
  exact ⟨by rw [HE.out]; rfl, rfl⟩

set_option maxHeartbeats 400000 in
set_option maxRecDepth 100000 in
theorem iScNeg_any (a : Int) (w : World) :
    Calls Try.prog 89 #[.int .i64 a] w fun e w' => e = .returned (.int .i64 (scNeg a)) ∧ w = w' := by
  have ha0 := sca_nonneg a
  have ha1 := sca_lt a
  have HE : Hid (scNeg a = sca (-sca a)) := rfl
  go_enter Try.func89, Try.ntmps89
  go_wp2_with (go_at_call 103; refine (iScOf_any _ _).mono ?_; rintro e w1 ⟨rfl, rfl⟩)
  go_ret
  exact ⟨by rw [HE.out]; rfl, rfl⟩

set_option maxHeartbeats 800000 in
set_option maxRecDepth 100000 in
theorem len64_any (w : World) :
    Calls Try.prog 110 #[.int .u64 1007] w fun e w' => e = .returned (.int .i64 10) ∧ w = w' := by
  go_enter Try.func110, Try.ntmps110
  go_wp2
  go_ret
  exact ⟨by kernel_rfl, rfl⟩

set_option maxHeartbeats 800000 in
set_option maxRecDepth 100000 in
theorem len_any (w : World) :
    Calls Try.prog 106 #[.int .u64 1007] w fun e w' => e = .returned (.int .i64 10) ∧ w = w' := by
  go_enter Try.func106, Try.ntmps106
  go_wp2_with (go_at_call 110; refine (len64_any _).mono ?_; rintro e w1 ⟨rfl, rfl⟩)
  go_ret
  exact ⟨rfl, rfl⟩

set_option maxHeartbeats 800000 in
set_option maxRecDepth 100000 in
theorem iScInv_any (a : Int) (w : World) :
    Calls Try.prog 90 #[.int .i64 a] w fun e w' => e = .returned (.int .i64 (scInv a)) ∧ w = w' := by
  obtain ⟨R, hR⟩ : ∃ R, R = scn a ^ eS % 1009 := ⟨_, rfl⟩
  have HV : Hid (scInv a = (R : Int)) := by rw [hR]; rfl
  have HR : Hid (R = scn a ^ eS % 1009) := hR
  clear hR
  go_enter Try.func90, Try.ntmps90
  go_wp2_with (go_at_call 106; refine (len_any _).mono ?_; rintro e w1 ⟨rfl, rfl⟩)
  go_loopw [3, 4, 8] (fun x b i wr => ∃ (k r : Nat) (s : Int), i = .int .i64 (k : Int) ∧ k ≤ 10 ∧ x = .int .i64 (r : Int) ∧ b = .int .i64 s ∧ r < 1009 ∧ Hid (r * scn s ^ (eS / 2 ^ k) % 1009 = R) ∧ w = wr) (fun _ _ i _ => 10 - (intOf i).toNat)
  case atStart => exact ⟨0, 1, a, rfl, by omega, rfl, rfl, by omega, (show 1 * scn a ^ (eS / 2 ^ 0) % 1009 = R by rw [Nat.one_mul, Nat.pow_zero, Nat.div_one, HR.out]), rfl⟩
  case round =>
    obtain ⟨k, r, s, rfl, hk, rfl, rfl, hr, HP, rfl⟩ := hrel
    by_cases h0 : k < 10
    · have h0' : (k : Int) < 10 := by omega
      have HS2 : Hid (scn s * scn s % 1009 < 1009) := Nat.mod_lt _ (by decide)
      have HR2 : Hid (r * scn s % 1009 < 1009) := Nat.mod_lt _ (by decide)
      have HC : Hid (∀ w, Calls Try.prog 84 #[.int .i64 (r : Int), .int .i64 s] w fun e w' => e = .returned (.int .i64 ((r * scn s % 1009 : Nat) : Int)) ∧ w = w') := fun w => by
        have h := iScMul_any r s w
        rw [scMul_nat, scn_small hr] at h
        exact h
      have HD : Hid (∀ w, Calls Try.prog 84 #[.int .i64 s, .int .i64 s] w fun e w' => e = .returned (.int .i64 ((scn s * scn s % 1009 : Nat) : Int)) ∧ w = w') := fun w => by
        have h := iScMul_any s s w
        rw [scMul_nat] at h
        exact h
      have HE : Hid (eS / 2 ^ (k + 1) = eS / 2 ^ k / 2) := by show _ = _; rw [Nat.pow_succ, Nat.div_div_eq_div_mul]
      obtain ⟨m, hm⟩ : ∃ m, m = eS / 2 ^ k := ⟨_, rfl⟩
      have HM : Hid (m = eS / 2 ^ k) := hm
      have hml : m ≤ 1007 := by rw [hm]; exact Nat.div_le_self _ _
      rw [← hm] at HP HE
      clear hm
      have hshr : (1007 : Int) / 2 ^ k = (m : Int) := by
        rw [HM.out, Int.natCast_ediv, Int.natCast_pow]; rfl
      by_cases h2 : m % 2 = 1
      · have h2' : Int.tmod (m : Int) 2 = 1 := by rw [Int.tmod_eq_emod_of_nonneg (by omega)]; omega
        have HN : Hid (r * scn s % 1009 * (scn s * scn s % 1009) ^ (m / 2) % 1009 = R) := (sca_odd r (scn s) m h2).trans HP.out
        rw [← HE.out] at HN
        generalize r * scn s % 1009 = r2 at HN HC HR2
        generalize hS2 : scn s * scn s % 1009 = s2 at HN HD HS2
        have HN2 : Hid (r2 * scn (s2 : Int) ^ (eS / 2 ^ (k + 1)) % 1009 = R) := by rw [scn_small HS2.out]; exact HN
        clear h2 HP HN hS2 HE HM
        go_wp2_with fail
        refine (HC.out _).mono ?_
        rintro e w1 ⟨rfl, rfl⟩
        go_wp2_with fail
        refine (HD.out _).mono ?_
        rintro e w1 ⟨rfl, rfl⟩
        go_wp2
        go_roundw
        case rel => exact ⟨k + 1, r2, s2, by go_num, by omega, rfl, rfl, HR2.out, HN2, by trivial⟩
        case measure => simp [intOf]; omega
      · have h2' : Int.tmod (m : Int) 2 = 0 := by rw [Int.tmod_eq_emod_of_nonneg (by omega)]; omega
        have HN : Hid (r * (scn s * scn s % 1009) ^ (m / 2) % 1009 = R) := (sca_even r (scn s) m (by omega)).trans HP.out
        rw [← HE.out] at HN
        generalize hS2 : scn s * scn s % 1009 = s2 at HN HD HS2
        have HN2 : Hid (r * scn (s2 : Int) ^ (eS / 2 ^ (k + 1)) % 1009 = R) := by rw [scn_small HS2.out]; exact HN
        clear h2 HP HN hS2 HE HM HC HR2
        go_wp2_with fail
        refine (HD.out _).mono ?_
        rintro e w1 ⟨rfl, rfl⟩
        go_wp2
        go_roundw
        case rel => exact ⟨k + 1, r, s2, by go_num, by omega, rfl, rfl, hr, HN2, by trivial⟩
        case measure => simp [intOf]; omega
    · have h0' : ¬ (k : Int) < 10 := by omega
      obtain rfl : k = 10 := by omega
      have HF : Hid (R = r) := by
        have h := HP.out
        rw [show eS / 2 ^ 10 = 0 from rfl, Nat.pow_zero, Nat.mul_one, Nat.mod_eq_of_lt hr] at h
        exact h.symm
      clear HP
      go_wp2
      go_ret
      exact ⟨by rw [HV.out, HF.out]; rfl, rfl⟩

end Go.Proofs.Ytjlijflfepffiaa

/-
  The walks of the specification's scalars.
  (-DROP-: what the seat lacks is left out.)
-/
namespace Go.Proofs.Ytjlijflfepffiaa
open Go.RowKit

set_option maxHeartbeats 400000 in
set_option maxRecDepth 100000 in
theorem sScOf_any (n : Int) (w : World) :
    Calls Try.prog 50 #[.int .i64 n] w fun e w' => e = .returned (.int .i64 (sca n)) ∧ w = w' := by
  have hb := tmod_bounds_sca n
  by_cases h : Int.tmod n 1009 < 0
  · have he := tmod_neg_sca h
    go_enter Try.func50, Try.ntmps50
    go_wp2
    go_ret
    exact ⟨rfl, rfl⟩
  · have he := tmod_nonneg_sca h
    go_enter Try.func50, Try.ntmps50
    go_wp2
    go_ret
    exact ⟨rfl, rfl⟩

set_option maxHeartbeats 400000 in
set_option maxRecDepth 100000 in
theorem sScAdd_any (a b : Int) (w : World) :
    Calls Try.prog 13 #[.int .i64 a, .int .i64 b] w fun e w' => e = .returned (.int .i64 (scAdd a b)) ∧ w = w' := by
  have ha0 := sca_nonneg a
  have ha1 := sca_lt a
  have hb0 := sca_nonneg b
  have hb1 := sca_lt b
  have HE : Hid (scAdd a b = sca (sca a + sca b)) := rfl
  go_enter Try.func13, Try.ntmps13
  go_wp2_with (go_at_call 50; refine (sScOf_any _ _).mono ?_; rintro e w1 ⟨rfl, rfl⟩)
  go_ret
  exact ⟨by rw [HE.out]; rfl, rfl⟩

set_option maxHeartbeats 400000 in
set_option maxRecDepth 100000 in
theorem sScMul_any (a b : Int) (w : World) :
    Calls Try.prog 14 #[.int .i64 a, .int .i64 b] w fun e w' => e = .returned (.int .i64 (scMul a b)) ∧ w = w' := by
  have hp := sca_prod a b
  have HE : Hid (scMul a b = sca (sca a * sca b)) := rfl
  go_enter Try.func14, Try.ntmps14
  go_wp2_with (go_at_call 50; refine (sScOf_any _ _).mono ?_; rintro e w1 ⟨rfl, rfl⟩)
  go_ret
  exact ⟨by rw [HE.out]; rfl, rfl⟩

set_option maxHeartbeats 400000 in
set_option maxRecDepth 100000 in
theorem sScNeg_any (a : Int) (w : World) :
    Calls Try.prog 95 #[.int .i64 a] w fun e w' => e = .returned (.int .i64 (scNeg a)) ∧ w = w' := by
  have ha0 := sca_nonneg a
  have ha1 := sca_lt a
  have HE : Hid (scNeg a = sca (-sca a)) := rfl
  go_enter Try.func95, Try.ntmps95
  go_wp2_with (go_at_call 50; refine (sScOf_any _ _).mono ?_; rintro e w1 ⟨rfl, rfl⟩)
  go_ret
  exact ⟨by rw [HE.out]; rfl, rfl⟩

set_option maxHeartbeats 800000 in
set_option maxRecDepth 100000 in
theorem sScInv_any (a : Int) (w : World) :
    Calls Try.prog 93 #[.int .i64 a] w fun e w' => e = .returned (.int .i64 (scInv a)) ∧ w = w' := by
  obtain ⟨A, hA⟩ : ∃ A, A = scn a := ⟨_, rfl⟩
  have HA : Hid (A < 1009) := by rw [hA]; exact scn_lt a
  have HFA : Hid (sca a = (A : Int)) := by rw [hA]; exact (scn_cast a).symm
  obtain ⟨R, hR⟩ : ∃ R, R = A ^ eS % 1009 := ⟨_, rfl⟩
  have HV : Hid (scInv a = (R : Int)) := by rw [hR, hA]; rfl
  have HR : Hid (R = A ^ eS % 1009) := hR
  clear hA hR
  go_enter Try.func93, Try.ntmps93
  go_wp2_with (go_at_call 50; refine (sScOf_any _ _).mono ?_; rintro e w1 ⟨rfl, rfl⟩)
  rw [HFA.out]
  go_loopw [3, 4, 5] (fun x b m wr => ∃ k r s : Nat, m = .int .i64 (k : Int) ∧ k ≤ 1007 ∧ x = .int .i64 (r : Int) ∧ b = .int .i64 (s : Int) ∧ r < 1009 ∧ s < 1009 ∧ Hid (r * s ^ k % 1009 = R) ∧ w = wr) (fun _ _ m _ => (intOf m).toNat)
  case atStart => exact ⟨eS, 1, A, rfl, Nat.le_refl _, rfl, rfl, by omega, HA.out, (show 1 * A ^ eS % 1009 = R by rw [Nat.one_mul, HR.out]), rfl⟩
  case round =>
    obtain ⟨k, r, s, rfl, hk, rfl, rfl, hr, hs, HP, rfl⟩ := hrel
    by_cases h0 : 0 < k
    · have h0' : (0 : Int) < (k : Int) := by omega
      have hq : Int.tdiv (k : Int) 2 = ((k / 2 : Nat) : Int) := by rw [Int.tdiv_eq_ediv_of_nonneg (by omega)]; omega
      have hqb : k / 2 < k := by omega
      have HS2 : Hid (s * s % 1009 < 1009) := Nat.mod_lt _ (by decide)
      have HR2 : Hid (r * s % 1009 < 1009) := Nat.mod_lt _ (by decide)
      have HC : Hid (∀ w, Calls Try.prog 14 #[.int .i64 (r : Int), .int .i64 (s : Int)] w fun e w' => e = .returned (.int .i64 ((r * s % 1009 : Nat) : Int)) ∧ w = w') := fun w => by
        have h := sScMul_any r s w
        rw [scMul_nat, scn_small hr, scn_small hs] at h
        exact h
      have HD : Hid (∀ w, Calls Try.prog 14 #[.int .i64 (s : Int), .int .i64 (s : Int)] w fun e w' => e = .returned (.int .i64 ((s * s % 1009 : Nat) : Int)) ∧ w = w') := fun w => by
        have h := sScMul_any s s w
        rw [scMul_nat, scn_small hs] at h
        exact h
      by_cases h2 : k % 2 = 1
      · have h2' : Int.tmod (k : Int) 2 = 1 := by rw [Int.tmod_eq_emod_of_nonneg (by omega)]; omega
        have HN : Hid (r * s % 1009 * (s * s % 1009) ^ (k / 2) % 1009 = R) := (sca_odd r s k h2).trans HP.out
        generalize r * s % 1009 = r2 at HN HC HR2
        generalize s * s % 1009 = s2 at HN HD HS2
        generalize k / 2 = k2 at HN hq hqb
        clear h2 HP
        go_wp2_with fail
        refine (HC.out _).mono ?_
        rintro e w1 ⟨rfl, rfl⟩
        go_wp2_with fail
        refine (HD.out _).mono ?_
        rintro e w1 ⟨rfl, rfl⟩
        go_wp2
        go_roundw
        case rel => exact ⟨k2, r2, s2, by go_num, by omega, rfl, rfl, HR2.out, HS2.out, HN, by trivial⟩
        case measure => simp [intOf]; omega
      · have h2' : Int.tmod (k : Int) 2 = 0 := by rw [Int.tmod_eq_emod_of_nonneg (by omega)]; omega
        have HN : Hid (r * (s * s % 1009) ^ (k / 2) % 1009 = R) := (sca_even r s k (by omega)).trans HP.out
        generalize s * s % 1009 = s2 at HN HD HS2
        generalize k / 2 = k2 at HN hq hqb
        clear h2 HP HC HR2
        go_wp2_with fail
        refine (HD.out _).mono ?_
        rintro e w1 ⟨rfl, rfl⟩
        go_wp2
        go_roundw
        case rel => exact ⟨k2, r, s2, by go_num, by omega, rfl, rfl, hr, HS2.out, HN, by trivial⟩
        case measure => simp [intOf]; omega
    · have h0' : ¬ (0 : Int) < (k : Int) := by omega
      obtain rfl : k = 0 := by omega
      have HF : Hid (R = r) := by
        have h := HP.out
        rw [Nat.pow_zero, Nat.mul_one, Nat.mod_eq_of_lt hr] at h
        exact h.symm
      clear HP
      go_wp2
      go_ret
      exact ⟨by rw [HV.out, HF.out]; rfl, rfl⟩

end Go.Proofs.Ytjlijflfepffiaa

/-
  The walks of ScDot, the program's and the specification's.
  (-DROP-: what the seat lacks is left out.)
-/
namespace Go.Proofs.Ytjlijflfepffiaa
open Go.RowKit

set_option maxHeartbeats 800000 in
set_option maxRecDepth 100000 in
theorem sDot_any (a1 a2 : Option Addr) (n1 c1 n2 c2 : Nat) (hm1 : n1 ≤ 9223372036854775807) (f g : Nat → Int) (w : World)
    (hA : IntsAt w a1 n1 w.heap.size f) (hB : IntsAt w a2 n2 w.heap.size g) :
    Calls Try.prog 15 #[.slice a1 n1 c1, .slice a2 n2 c2] w fun e w' => e = .returned (.int .i64 (dotN f g (min n1 n2))) ∧ Below w.heap.size w w' := by
  have HA : Hid (IntsAt w a1 n1 w.heap.size f) := hA
  have HB : Hid (IntsAt w a2 n2 w.heap.size g) := hB
  clear hA hB
  obtain ⟨n, hn⟩ : ∃ n, n = min n1 n2 := ⟨_, rfl⟩
  have hn1 : n ≤ n1 := by omega
  have hn2 : n ≤ n2 := by omega
  have HN : Hid (n = min n1 n2) := hn
  rw [← hn]
  clear hn
  go_enter Try.func15, Try.ntmps15
  go_wp2
  go_loopw [5, 6] (fun x i wr => ∃ k : Nat, i = .int .i64 (k : Int) ∧ k ≤ n ∧ x = .int .i64 (dotN f g k) ∧ Hid (Below w.heap.size w wr)) (fun _ i _ => n - (intOf i).toNat)
  case atStart => exact ⟨0, rfl, Nat.zero_le _, rfl, Below.refl _ _⟩
  case round =>
    obtain ⟨k, rfl, hk, rfl, HW⟩ := hrel
    by_cases hlt : k < n
    · have hl1 : (k : Int) < (n1 : Int) := by omega
      have hl2 : (k : Int) < (n2 : Int) := by omega
      have hk0 : (0 : Int) ≤ (k : Int) := by omega
      obtain ⟨b, off, rfl, hb, hz⟩ := (HA.out.on HW.out) k (by omega)
      obtain ⟨b', off', rfl, hb', hz'⟩ := (HB.out.on HW.out) k (by omega)
      have HC : Hid (∀ w, Calls Try.prog 14 #[.int .i64 (f k), .int .i64 (g k)] w fun e w' => e = .returned (.int .i64 (scMul (f k) (g k))) ∧ w' = w) := fun w => (sScMul_any _ _ w).mono fun e w' h => ⟨h.1, h.2.symm⟩
      have HD : Hid (∀ w, Calls Try.prog 13 #[.int .i64 (dotN f g k), .int .i64 (scMul (f k) (g k))] w fun e w' => e = .returned (.int .i64 (dotN f g (k + 1))) ∧ w' = w) := fun w => (sScAdd_any _ _ w).mono fun e w' h => ⟨h.1, h.2.symm⟩
      generalize dotN f g k = d at HD
      generalize scMul (f k) (g k) = p at HC HD
      generalize f k = x at HC hz
      generalize g k = y at HC hz'
      clear hb hb' HA HB
      go_wp2
      refine wp_region_still_tail 11 mixesSc (by kernel_rfl) ?_
      simp only [List.take_succ_cons, List.take_zero, List.drop_succ_cons, List.drop_zero]
      repeat still_step
      still_call (HC.out _)
      repeat still_step
      still_call (HD.out _)
      repeat still_step
      refine wpStill_nil ?_
      go_wp2
      go_roundw
      case rel => exact ⟨k + 1, by go_num, hlt, rfl, HW.out.drew⟩
      case measure => simp [intOf]; omega
    · have HK : Hid (k = n) := (show k = n by omega)
      by_cases h1 : k < n1
      · have h1' : (k : Int) < (n1 : Int) := by omega
        have h2' : ¬ (k : Int) < (n2 : Int) := by have := HN.out; omega
        go_wp2
        go_ret
        exact ⟨by rw [← HK.out]; rfl, HW.out⟩
      · have h1' : ¬ (k : Int) < (n1 : Int) := by omega
        go_wp2
        go_ret
        exact ⟨by rw [← HK.out]; rfl, HW.out⟩

end Go.Proofs.Ytjlijflfepffiaa
