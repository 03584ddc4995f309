/-
  Texts of one's own, joined.
-/
import Derived.ProofKit
import Derived.Test.YtckhbflolccinaaProg
import Derived.WalkLawsBesides
import Derived.WalkSpells

/-
  Numbers modulo 12107: plain mathematics.
-/
namespace Go.Proofs.Ytckhbflolccinaa

/-- A number modulo the field's size. -/
def fp (x : Int) : Int := x % 12107
theorem fp_nonneg (x : Int) : 0 ≤ fp x := Int.emod_nonneg _ (by decide)
theorem fp_lt (x : Int) : fp x < 12107 := Int.emod_lt_of_pos _ (by decide)
theorem fp_fp (x : Int) : fp (fp x) = fp x := Int.emod_emod_of_dvd _ (Int.dvd_refl _)
theorem fp_small {x : Int} (h : 0 ≤ x) (h' : x < 12107) : fp x = x := Int.emod_eq_of_lt h h'

/-- The rest that Go makes, and what is put to it below 0. -/
theorem tmod_neg_fp {n : Int} (h : Int.tmod n 12107 < 0) : Int.tmod n 12107 + 12107 = fp n := by
  unfold fp
  rcases Int.lt_or_le n 0 with hn | hn
  · have e : Int.tmod n 12107 = -((-n) % 12107) := by
      have := Int.neg_tmod (a := -n) (b := 12107)
      rw [Int.neg_neg] at this
      rw [this, Int.tmod_eq_emod_of_nonneg (by omega)]
    rw [e] at h ⊢
    omega
  · rw [Int.tmod_eq_emod_of_nonneg hn] at h
    omega

theorem tmod_nonneg_fp {n : Int} (h : ¬ Int.tmod n 12107 < 0) : Int.tmod n 12107 = fp n := by
  unfold fp
  rcases Int.lt_or_le n 0 with hn | hn
  · have e : Int.tmod n 12107 = -((-n) % 12107) := by
      have := Int.neg_tmod (a := -n) (b := 12107)
      rw [Int.neg_neg] at this
      rw [this, Int.tmod_eq_emod_of_nonneg (by omega)]
    rw [e] at h ⊢
    omega
  · rw [Int.tmod_eq_emod_of_nonneg hn]

theorem tmod_bounds (n : Int) : -12107 ≤ Int.tmod n 12107 ∧ Int.tmod n 12107 < 12107 := by
  by_cases h : Int.tmod n 12107 < 0
  · have := tmod_neg_fp h; have := fp_nonneg n; omega
  · have := tmod_nonneg_fp h; have := fp_lt n; omega

theorem tmod_fp {n : Int} (h : 0 ≤ n) : Int.tmod n 12107 = fp n := Int.tmod_eq_emod_of_nonneg h

def fpAdd (a b : Int) : Int := fp (fp a + fp b)
def fpSub (a b : Int) : Int := fp (fp a - fp b)
def fpMul (a b : Int) : Int := fp (fp a * fp b)

theorem fpAdd_eq (a b : Int) : fpAdd a b = fp (a + b) := by unfold fpAdd fp; simp
theorem fpSub_eq (a b : Int) : fpSub a b = fp (a - b) := by unfold fpSub fp; simp
theorem fpMul_eq (a b : Int) : fpMul a b = fp (a * b) := by unfold fpMul fp; simp [← Int.mul_emod]

theorem fp_put (a : Int) : fp (a + 12107) = fp a := by unfold fp; simp

theorem fp_add_fp (a b : Int) : fp (fp a + fp b) = fp (a + b) := fpAdd_eq a b
theorem fp_add_left (a b : Int) : fp (fp a + b) = fp (a + b) := by unfold fp; simp
theorem fp_add_right (a b : Int) : fp (a + fp b) = fp (a + b) := by unfold fp; simp
theorem fp_mul_left (a b : Int) : fp (fp a * b) = fp (a * b) := by unfold fp; simp [Int.mul_emod]
theorem fp_mul_right (a b : Int) : fp (a * fp b) = fp (a * b) := by unfold fp; simp [Int.mul_emod]

theorem prod_nonneg {a b : Int} (a0 : 0 ≤ a) (b0 : 0 ≤ b) : 0 ≤ a * b := Int.mul_nonneg a0 b0
theorem prod_le {a b : Int} (a0 : 0 ≤ a) (a1 : a < 12107) (b0 : 0 ≤ b) (b1 : b < 12107) : a * b ≤ 146555236 := by
  have := Int.mul_le_mul (show a ≤ 12106 by omega) (show b ≤ 12106 by omega) b0 (by decide)
  omega

/-- A number as one that is not below 0. -/
def nat (a : Int) : Nat := (fp a).toNat
theorem nat_lt (a : Int) : nat a < 12107 := by have := fp_lt a; have := fp_nonneg a; unfold nat; omega
theorem nat_cast (a : Int) : ((nat a : Nat) : Int) = fp a := by have := fp_nonneg a; unfold nat; omega

theorem nat_small {n : Nat} (h : n < 12107) : nat (n : Int) = n := by unfold nat; rw [fp_small (by omega) (by omega)]; simp

/-- A power. -/
def fpPow (a n : Int) : Int := if n < 0 then 0 else ((nat a ^ n.toNat % 12107 : Nat) : Int)

theorem fpPow_neg (a : Int) {n : Int} (h : n < 0) : fpPow a n = 0 := if_pos h
theorem fpPow_nat (a : Int) (n : Nat) : fpPow a (n : Int) = ((nat a ^ n % 12107 : Nat) : Int) := by unfold fpPow; rw [if_neg (by omega)]; simp
theorem fpPow_bounds (a n : Int) : 0 ≤ fpPow a n ∧ fpPow a n < 12107 := by
  unfold fpPow
  split
  · omega
  · have := Nat.mod_lt (nat a ^ n.toNat) (show 12107 > 0 by decide); omega

theorem mod_mul_mod (a b : Nat) : a % 12107 * b % 12107 = a * b % 12107 := by rw [Nat.mul_mod (a % 12107), Nat.mod_mod, ← Nat.mul_mod]
theorem mul_mod_mod (a b : Nat) : a * (b % 12107) % 12107 = a * b % 12107 := by rw [Nat.mul_comm, mod_mul_mod, Nat.mul_comm]
theorem pow_mod_mod (a n : Nat) : (a % 12107) ^ n % 12107 = a ^ n % 12107 := (Nat.pow_mod a n 12107).symm

/-- A round of the power's loop with an odd number. -/
theorem pow_odd (x b n : Nat) (h : n % 2 = 1) : (x * b % 12107) * (b * b % 12107) ^ (n / 2) % 12107 = x * b ^ n % 12107 := by
  rw [mod_mul_mod, ← mul_mod_mod, pow_mod_mod, mul_mod_mod]
  have e : b ^ n = b * (b * b) ^ (n / 2) := by
    rw [← Nat.pow_two, ← Nat.pow_mul, ← Nat.pow_succ']
    congr 1; omega
  rw [e, Nat.mul_assoc]

/-- A round of it with an even one. -/
theorem pow_even (x b n : Nat) (h : n % 2 = 0) : x * (b * b % 12107) ^ (n / 2) % 12107 = x * b ^ n % 12107 := by
  rw [← mul_mod_mod, pow_mod_mod, mul_mod_mod]
  have e : b ^ n = (b * b) ^ (n / 2) := by
    rw [← Nat.pow_two, ← Nat.pow_mul]
    congr 1; omega
  rw [e]

/-- The root of a number: a power of it, where its square is the number. -/
def rootX (a : Int) : Int := fpPow a 3027
def rootB (a : Int) : Bool := decide (fpMul (rootX a) (rootX a) = fp a)
def rootV (a : Int) : Int := if rootB a = true then (if fpSub 0 (rootX a) < rootX a then fpSub 0 (rootX a) else rootX a) else 0

/-- Whether a number is one of the field. -/
def fpOk (a : Int) : Bool := decide (0 ≤ a ∧ a < 12107)

end Go.Proofs.Ytckhbflolccinaa

/-
  The walks of the program's field.
  (-DROP-: what the seat lacks is left out.)
-/
namespace Go.Proofs.Ytckhbflolccinaa
open Go.RowKit

set_option maxHeartbeats 400000 in
set_option maxRecDepth 100000 in
theorem fieldOf_any (n : Int) (w : World) :
    Calls Try.prog 77 #[.int .i64 n] w fun e w' => e = .returned (.int .i64 (fp n)) ∧ w = w' := by
  have hb := tmod_bounds n
  by_cases h : Int.tmod n 12107 < 0
  · have he := tmod_neg_fp h
    go_enter Try.func77, Try.ntmps77
    go_wp2
    go_ret
    exact ⟨rfl, rfl⟩
  · have he := tmod_nonneg_fp h
    go_enter Try.func77, Try.ntmps77
    go_wp2
    go_ret
    exact ⟨rfl, rfl⟩

set_option maxHeartbeats 400000 in
set_option maxRecDepth 100000 in
theorem plus_any (a b : Int) (a0 : 0 ≤ a) (a1 : a < 12107) (b0 : 0 ≤ b) (b1 : b < 12107) (w : World) :
    Calls Try.prog 78 #[.int .i64 a, .int .i64 b] w fun e w' => e = .returned (.int .i64 (fp (a + b))) ∧ w = w' := by
  have he := tmod_fp (n := a + b) (by omega)
  have h0 := fp_nonneg (a + b)
  have h1 := fp_lt (a + b)
  go_enter Try.func78, Try.ntmps78
  go_wp2
  go_ret
  exact ⟨rfl, rfl⟩

set_option maxHeartbeats 400000 in
set_option maxRecDepth 100000 in
theorem minus_any (a b : Int) (a0 : 0 ≤ a) (a1 : a < 12107) (b0 : 0 ≤ b) (b1 : b < 12107) (w : World) :
    Calls Try.prog 76 #[.int .i64 a, .int .i64 b] w fun e w' => e = .returned (.int .i64 (fp (a - b))) ∧ w = w' := by
  have he : Int.tmod (a + 12107 - b) 12107 = fp (a - b) := by
    rw [tmod_fp (n := a + 12107 - b) (by omega), ← fp_put (a - b)]
    congr 1; omega
  have h0 := fp_nonneg (a - b)
  have h1 := fp_lt (a - b)
  go_enter Try.func76, Try.ntmps76
  go_wp2
  go_ret
  exact ⟨rfl, rfl⟩

set_option maxHeartbeats 400000 in
set_option maxRecDepth 100000 in
theorem times_any (a b : Int) (a0 : 0 ≤ a) (a1 : a < 12107) (b0 : 0 ≤ b) (b1 : b < 12107) (w : World) :
    Calls Try.prog 70 #[.int .i64 a, .int .i64 b] w fun e w' => e = .returned (.int .i64 (fp (a * b))) ∧ w = w' := by
  have hp0 := prod_nonneg a0 b0
  have hp1 := prod_le a0 a1 b0 b1
  have he := tmod_fp (n := a * b) hp0
  have h0 := fp_nonneg (a * b)
  have h1 := fp_lt (a * b)
  go_enter Try.func70, Try.ntmps70
  go_wp2
  go_ret
  exact ⟨rfl, rfl⟩

theorem times_nat (a b : Nat) (ha : a < 12107) (hb : b < 12107) (w : World) :
    Calls Try.prog 70 #[.int .i64 (a : Int), .int .i64 (b : Int)] w fun e w' => e = .returned (.int .i64 ((a * b % 12107 : Nat) : Int)) ∧ w = w' := by
  have h := times_any a b (by omega) (by omega) (by omega) (by omega) w
  rw [show fp ((a : Int) * (b : Int)) = ((a * b % 12107 : Nat) : Int) by unfold fp; omega] at h
  exact h

set_option maxHeartbeats 400000 in
set_option maxRecDepth 100000 in
theorem power_neg (a n : Int) (hn : n < 0) (w : World) :
    Calls Try.prog 94 #[.int .i64 a, .int .i64 n] w fun e w' => e = .returned (.int .i64 0) ∧ w = w' := by
  go_enter Try.func94, Try.ntmps94
  go_wp2
  go_ret
  exact ⟨rfl, rfl⟩

set_option maxHeartbeats 800000 in
set_option maxRecDepth 100000 in
theorem power_nat (a n : Nat) (ha : a < 12107) (hn : n ≤ 9223372036854775807) (w : World) :
    Calls Try.prog 94 #[.int .i64 (a : Int), .int .i64 (n : Int)] w fun e w' => e = .returned (.int .i64 ((a ^ n % 12107 : Nat) : Int)) ∧ w = w' := by
  have hn0 : ¬ (n : Int) < 0 := by omega
  obtain ⟨R, hR⟩ : ∃ R, R = a ^ n % 12107 := ⟨_, rfl⟩
  rw [← hR]
  have HR : Hid (R = a ^ n % 12107) := hR
  clear hR
  go_enter Try.func94, Try.ntmps94
  go_wp2
  go_loopw [1, 5, 6] (fun m x b wr => ∃ k r s : Nat, m = .int .i64 (k : Int) ∧ k ≤ n ∧ x = .int .i64 (r : Int) ∧ b = .int .i64 (s : Int) ∧ r < 12107 ∧ s < 12107 ∧ Hid (r * s ^ k % 12107 = R) ∧ w = wr) (fun m _ _ _ => (intOf m).toNat)
  case atStart => exact ⟨n, 1, a, rfl, Nat.le_refl _, rfl, rfl, by omega, ha, (show 1 * a ^ n % 12107 = R by rw [Nat.one_mul, HR.out]), rfl⟩
  case round =>
    obtain ⟨k, r, s, rfl, hk, rfl, rfl, hr, hs, HP, rfl⟩ := hrel
    by_cases h0 : 0 < k
    · have h0' : (0 : Int) < (k : Int) := by omega
      have hq : Int.tdiv (k : Int) 2 = ((k / 2 : Nat) : Int) := by rw [Int.tdiv_eq_ediv_of_nonneg (by omega)]; omega
      have hqb : k / 2 < k := by omega
      have HS2 : Hid (s * s % 12107 < 12107) := Nat.mod_lt _ (by decide)
      have HR2 : Hid (r * s % 12107 < 12107) := Nat.mod_lt _ (by decide)
      have HC : Hid (∀ w, Calls Try.prog 70 #[.int .i64 (r : Int), .int .i64 (s : Int)] w fun e w' => e = .returned (.int .i64 ((r * s % 12107 : Nat) : Int)) ∧ w = w') := times_nat r s hr hs
      have HD : Hid (∀ w, Calls Try.prog 70 #[.int .i64 (s : Int), .int .i64 (s : Int)] w fun e w' => e = .returned (.int .i64 ((s * s % 12107 : Nat) : Int)) ∧ w = w') := times_nat s s hs hs
      by_cases h2 : k % 2 = 1
      · have h2' : Int.tmod (k : Int) 2 = 1 := by rw [Int.tmod_eq_emod_of_nonneg (by omega)]; omega
        have HN : Hid (r * s % 12107 * (s * s % 12107) ^ (k / 2) % 12107 = R) := (pow_odd r s k h2).trans HP.out
        generalize r * s % 12107 = r2 at HN HC HR2
        generalize s * s % 12107 = s2 at HN HD HS2
        generalize k / 2 = k2 at HN hq hqb
        clear h2 HP
        go_wp2_with fail
        refine (HC.out _).mono ?_
        rintro e w1 ⟨rfl, rfl⟩
        go_wp2_with fail
        refine (HD.out _).mono ?_
        rintro e w1 ⟨rfl, rfl⟩
        go_wp2
        go_roundw
        case rel => exact ⟨k2, r2, s2, by go_num, by omega, rfl, rfl, HR2.out, HS2.out, HN, by trivial⟩
        case measure => simp [intOf]; omega
      · have h2' : Int.tmod (k : Int) 2 = 0 := by rw [Int.tmod_eq_emod_of_nonneg (by omega)]; omega
        have HN : Hid (r * (s * s % 12107) ^ (k / 2) % 12107 = R) := (pow_even r s k (by omega)).trans HP.out
        generalize s * s % 12107 = s2 at HN HD HS2
        generalize k / 2 = k2 at HN hq hqb
        clear h2 HP
        go_wp2_with fail
        refine (HD.out _).mono ?_
        rintro e w1 ⟨rfl, rfl⟩
        go_wp2
        go_roundw
        case rel => exact ⟨k2, r, s2, by go_num, by omega, rfl, rfl, hr, HS2.out, HN, by trivial⟩
        case measure => simp [intOf]; omega
    · have h0' : ¬ (0 : Int) < (k : Int) := by omega
      obtain rfl : k = 0 := by omega
      have HF : Hid (R = r) := by
        have h := HP.out
        rw [Nat.pow_zero, Nat.mul_one, Nat.mod_eq_of_lt hr] at h
        exact h.symm
      clear HP
      go_wp2
      go_ret
      exact ⟨by rw [HF.out]; rfl, rfl⟩

theorem power_any (a n : Int) (a0 : 0 ≤ a) (a1 : a < 12107) (h1 : n ≤ 9223372036854775807) (w : World) :
    Calls Try.prog 94 #[.int .i64 a, .int .i64 n] w fun e w' => e = .returned (.int .i64 (fpPow a n)) ∧ w = w' := by
  by_cases hn : n < 0
  · rw [fpPow_neg a hn]; exact power_neg a n hn w
  · obtain ⟨k, rfl⟩ : ∃ k : Nat, n = k := ⟨n.toNat, by omega⟩
    obtain ⟨b, rfl⟩ : ∃ b : Nat, a = b := ⟨a.toNat, by omega⟩
    rw [fpPow_nat, nat_small (by omega)]
    exact power_nat b k (by omega) (by omega) w

set_option maxHeartbeats 400000 in
set_option maxRecDepth 100000 in
theorem inverse_any (a : Int) (a0 : 0 ≤ a) (a1 : a < 12107) (w : World) :
    Calls Try.prog 89 #[.int .i64 a] w fun e w' => e = .returned (.int .i64 (fpPow a 12105)) ∧ w = w' := by
  have HC : Hid (∀ w, Calls Try.prog 94 #[.int .i64 a, .int .i64 12105] w fun e w' => e = .returned (.int .i64 (fpPow a 12105)) ∧ w = w') := power_any a 12105 a0 a1 (by decide)
  go_enter Try.func89, Try.ntmps89
  go_wp2_with fail
  refine (HC.out _).mono ?_
  rintro e w1 ⟨rfl, rfl⟩
  go_wp2
  go_ret
  exact ⟨rfl, rfl⟩

set_option maxHeartbeats 400000 in
set_option maxRecDepth 100000 in
theorem iSub_any (a b : Int) (w : World) :
    Calls Try.prog 57 #[.int .i64 a, .int .i64 b] w fun e w' => e = .returned (.int .i64 (fpSub a b)) ∧ w = w' := by
  have HT : Hid (∀ w, Calls Try.prog 76 #[.int .i64 (fp a), .int .i64 (fp b)] w fun e w' => e = .returned (.int .i64 (fpSub a b)) ∧ w = w') := minus_any (fp a) (fp b) (fp_nonneg a) (fp_lt a) (fp_nonneg b) (fp_lt b)
  go_enter Try.func57, Try.ntmps57
  go_wp2_with (first | (go_at_call 77; refine (fieldOf_any _ _).mono ?_; rintro e w1 ⟨rfl, rfl⟩) | (go_at_call 76; refine (HT.out _).mono ?_; rintro e w1 ⟨rfl, rfl⟩))
  go_ret
  exact ⟨rfl, rfl⟩

set_option maxHeartbeats 400000 in
set_option maxRecDepth 100000 in
theorem iOk_any (a : Int) (w : World) :
    Calls Try.prog 69 #[.int .i64 a] w fun e w' => e = .returned (.bool (fpOk a)) ∧ w = w' := by
  by_cases h0 : 0 ≤ a
  · by_cases h1 : a < 12107
    · rw [show fpOk a = true from decide_eq_true ⟨h0, h1⟩]
      go_enter Try.func69, Try.ntmps69
      go_wp2
      go_ret
      exact ⟨rfl, rfl⟩
    · rw [show fpOk a = false from decide_eq_false (by omega)]
      go_enter Try.func69, Try.ntmps69
      go_wp2
      go_ret
      exact ⟨rfl, rfl⟩
  · rw [show fpOk a = false from decide_eq_false (by omega)]
    go_enter Try.func69, Try.ntmps69
    go_wp2
    go_ret
    exact ⟨rfl, rfl⟩

theorem fpPow_fp (a n : Int) : fpPow (fp a) n = fpPow a n := by unfold fpPow nat; rw [fp_fp]

theorem rootX_fp (a : Int) : rootX (fp a) = rootX a := fpPow_fp a 3027
theorem rootB_fp (a : Int) : rootB (fp a) = rootB a := by unfold rootB; rw [rootX_fp, fp_fp]
theorem rootV_fp (a : Int) : rootV (fp a) = rootV a := by unfold rootV; rw [rootB_fp, rootX_fp]

end Go.Proofs.Ytckhbflolccinaa
