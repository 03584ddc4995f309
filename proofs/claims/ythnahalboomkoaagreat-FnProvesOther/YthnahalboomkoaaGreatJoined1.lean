/-
  Texts of one's own, joined.
-/
import Derived.ProofKit
import Derived.Test.YthnahalboomkoaaGreatProg
import Derived.WalkLawsBesides
import Derived.WalkSpells

/-
  Numbers modulo 12107: plain mathematics.
-/
namespace Go.Proofs.YthnahalboomkoaaGreat

/-- A number modulo the field's size. -/
def fp (x : Int) : Int := x % 12107
theorem fp_nonneg (x : Int) : 0 ≤ fp x := Int.emod_nonneg _ (by decide)
theorem fp_lt (x : Int) : fp x < 12107 := Int.emod_lt_of_pos _ (by decide)
theorem fp_fp (x : Int) : fp (fp x) = fp x := Int.emod_emod_of_dvd _ (Int.dvd_refl _)
theorem fp_small {x : Int} (h : 0 ≤ x) (h' : x < 12107) : fp x = x := Int.emod_eq_of_lt h h'

/-- The rest that Go makes, and what is put to it below 0. -/
theorem tmod_neg_fp {n : Int} (h : Int.tmod n 12107 < 0) : Int.tmod n 12107 + 12107 = fp n := by
  unfold fp
  rcases Int.lt_or_le n 0 with hn | hn
  · have e : Int.tmod n 12107 = -((-n) % 12107) := by
      have := Int.neg_tmod (a := -n) (b := 12107)
      rw [Int.neg_neg] at this
      rw [this, Int.tmod_eq_emod_of_nonneg (by omega)]
    rw [e] at h ⊢
    omega
  · rw [Int.tmod_eq_emod_of_nonneg hn] at h
    omega

theorem tmod_nonneg_fp {n : Int} (h : ¬ Int.tmod n 12107 < 0) : Int.tmod n 12107 = fp n := by
  unfold fp
  rcases Int.lt_or_le n 0 with hn | hn
  · have e : Int.tmod n 12107 = -((-n) % 12107) := by
      have := Int.neg_tmod (a := -n) (b := 12107)
      rw [Int.neg_neg] at this
      rw [this, Int.tmod_eq_emod_of_nonneg (by omega)]
    rw [e] at h ⊢
    omega
  · rw [Int.tmod_eq_emod_of_nonneg hn]

theorem tmod_bounds (n : Int) : -12107 ≤ Int.tmod n 12107 ∧ Int.tmod n 12107 < 12107 := by
  by_cases h : Int.tmod n 12107 < 0
  · have := tmod_neg_fp h; have := fp_nonneg n; omega
  · have := tmod_nonneg_fp h; have := fp_lt n; omega

theorem tmod_fp {n : Int} (h : 0 ≤ n) : Int.tmod n 12107 = fp n := Int.tmod_eq_emod_of_nonneg h

def fpAdd (a b : Int) : Int := fp (fp a + fp b)
def fpSub (a b : Int) : Int := fp (fp a - fp b)
def fpMul (a b : Int) : Int := fp (fp a * fp b)

theorem fpAdd_eq (a b : Int) : fpAdd a b = fp (a + b) := by unfold fpAdd fp; simp
theorem fpSub_eq (a b : Int) : fpSub a b = fp (a - b) := by unfold fpSub fp; simp
theorem fpMul_eq (a b : Int) : fpMul a b = fp (a * b) := by unfold fpMul fp; simp [← Int.mul_emod]

theorem fp_put (a : Int) : fp (a + 12107) = fp a := by unfold fp; simp

theorem fp_add_fp (a b : Int) : fp (fp a + fp b) = fp (a + b) := fpAdd_eq a b
theorem fp_add_left (a b : Int) : fp (fp a + b) = fp (a + b) := by unfold fp; simp
theorem fp_add_right (a b : Int) : fp (a + fp b) = fp (a + b) := by unfold fp; simp
theorem fp_mul_left (a b : Int) : fp (fp a * b) = fp (a * b) := by unfold fp; simp [Int.mul_emod]
theorem fp_mul_right (a b : Int) : fp (a * fp b) = fp (a * b) := by unfold fp; simp [Int.mul_emod]

theorem prod_nonneg {a b : Int} (a0 : 0 ≤ a) (b0 : 0 ≤ b) : 0 ≤ a * b := Int.mul_nonneg a0 b0
theorem prod_le {a b : Int} (a0 : 0 ≤ a) (a1 : a < 12107) (b0 : 0 ≤ b) (b1 : b < 12107) : a * b ≤ 146555236 := by
  have := Int.mul_le_mul (show a ≤ 12106 by omega) (show b ≤ 12106 by omega) b0 (by decide)
  omega

/-- A number as one that is not below 0. -/
def nat (a : Int) : Nat := (fp a).toNat
theorem nat_lt (a : Int) : nat a < 12107 := by have := fp_lt a; have := fp_nonneg a; unfold nat; omega
theorem nat_cast (a : Int) : ((nat a : Nat) : Int) = fp a := by have := fp_nonneg a; unfold nat; omega

theorem nat_small {n : Nat} (h : n < 12107) : nat (n : Int) = n := by unfold nat; rw [fp_small (by omega) (by omega)]; simp

/-- A power. -/
def fpPow (a n : Int) : Int := if n < 0 then 0 else ((nat a ^ n.toNat % 12107 : Nat) : Int)

theorem fpPow_neg (a : Int) {n : Int} (h : n < 0) : fpPow a n = 0 := if_pos h
theorem fpPow_nat (a : Int) (n : Nat) : fpPow a (n : Int) = ((nat a ^ n % 12107 : Nat) : Int) := by unfold fpPow; rw [if_neg (by omega)]; simp
theorem fpPow_bounds (a n : Int) : 0 ≤ fpPow a n ∧ fpPow a n < 12107 := by
  unfold fpPow
  split
  · omega
  · have := Nat.mod_lt (nat a ^ n.toNat) (show 12107 > 0 by decide); omega

theorem mod_mul_mod (a b : Nat) : a % 12107 * b % 12107 = a * b % 12107 := by rw [Nat.mul_mod (a % 12107), Nat.mod_mod, ← Nat.mul_mod]
theorem mul_mod_mod (a b : Nat) : a * (b % 12107) % 12107 = a * b % 12107 := by rw [Nat.mul_comm, mod_mul_mod, Nat.mul_comm]
theorem pow_mod_mod (a n : Nat) : (a % 12107) ^ n % 12107 = a ^ n % 12107 := (Nat.pow_mod a n 12107).symm

/-- A round of the power's loop with an odd number. -/
theorem pow_odd (x b n : Nat) (h : n % 2 = 1) : (x * b % 12107) * (b * b % 12107) ^ (n / 2) % 12107 = x * b ^ n % 12107 := by
  rw [mod_mul_mod, ← mul_mod_mod, pow_mod_mod, mul_mod_mod]
  have e : b ^ n = b * (b * b) ^ (n / 2) := by
    rw [← Nat.pow_two, ← Nat.pow_mul, ← Nat.pow_succ']
    congr 1; omega
  rw [e, Nat.mul_assoc]

/-- A round of it with an even one. -/
theorem pow_even (x b n : Nat) (h : n % 2 = 0) : x * (b * b % 12107) ^ (n / 2) % 12107 = x * b ^ n % 12107 := by
  rw [← mul_mod_mod, pow_mod_mod, mul_mod_mod]
  have e : b ^ n = (b * b) ^ (n / 2) := by
    rw [← Nat.pow_two, ← Nat.pow_mul]
    congr 1; omega
  rw [e]

/-- The root of a number: a power of it, where its square is the number. -/
def rootX (a : Int) : Int := fpPow a 3027
def rootB (a : Int) : Bool := decide (fpMul (rootX a) (rootX a) = fp a)
def rootV (a : Int) : Int := if rootB a = true then (if fpSub 0 (rootX a) < rootX a then fpSub 0 (rootX a) else rootX a) else 0

/-- Whether a number is one of the field. -/
def fpOk (a : Int) : Bool := decide (0 ≤ a ∧ a < 12107)

end Go.Proofs.YthnahalboomkoaaGreat

/-
  The walks of the program's field.
  (-DROP-: what the seat lacks is left out.)
-/
namespace Go.Proofs.YthnahalboomkoaaGreat
open Go.RowKit

set_option maxHeartbeats 400000 in
set_option maxRecDepth 100000 in
theorem fieldOf_any (n : Int) (w : World) :
    Calls Tryz.prog 139 #[.int .i64 n] w fun e w' => e = .returned (.int .i64 (fp n)) ∧ w = w' := by
  have hb := tmod_bounds n
  by_cases h : Int.tmod n 12107 < 0
  · have he := tmod_neg_fp h
    go_enter Tryz.func139, Tryz.ntmps139
    go_wp2
    go_ret
    exact ⟨rfl, rfl⟩
  · have he := tmod_nonneg_fp h
    go_enter Tryz.func139, Tryz.ntmps139
    go_wp2
    go_ret
    exact ⟨rfl, rfl⟩

set_option maxHeartbeats 400000 in
set_option maxRecDepth 100000 in
theorem plus_any (a b : Int) (a0 : 0 ≤ a) (a1 : a < 12107) (b0 : 0 ≤ b) (b1 : b < 12107) (w : World) :
    Calls Tryz.prog 185 #[.int .i64 a, .int .i64 b] w fun e w' => e = .returned (.int .i64 (fp (a + b))) ∧ w = w' := by
  have he := tmod_fp (n := a + b) (by omega)
  have h0 := fp_nonneg (a + b)
  have h1 := fp_lt (a + b)
  go_enter Tryz.func185, Tryz.ntmps185
  go_wp2
  go_ret
  exact ⟨rfl, rfl⟩

set_option maxHeartbeats 400000 in
set_option maxRecDepth 100000 in
theorem minus_any (a b : Int) (a0 : 0 ≤ a) (a1 : a < 12107) (b0 : 0 ≤ b) (b1 : b < 12107) (w : World) :
    Calls Tryz.prog 144 #[.int .i64 a, .int .i64 b] w fun e w' => e = .returned (.int .i64 (fp (a - b))) ∧ w = w' := by
  have he : Int.tmod (a + 12107 - b) 12107 = fp (a - b) := by
    rw [tmod_fp (n := a + 12107 - b) (by omega), ← fp_put (a - b)]
    congr 1; omega
  have h0 := fp_nonneg (a - b)
  have h1 := fp_lt (a - b)
  go_enter Tryz.func144, Tryz.ntmps144
  go_wp2
  go_ret
  exact ⟨rfl, rfl⟩

set_option maxHeartbeats 400000 in
set_option maxRecDepth 100000 in
theorem times_any (a b : Int) (a0 : 0 ≤ a) (a1 : a < 12107) (b0 : 0 ≤ b) (b1 : b < 12107) (w : World) :
    Calls Tryz.prog 142 #[.int .i64 a, .int .i64 b] w fun e w' => e = .returned (.int .i64 (fp (a * b))) ∧ w = w' := by
  have hp0 := prod_nonneg a0 b0
  have hp1 := prod_le a0 a1 b0 b1
  have he := tmod_fp (n := a * b) hp0
  have h0 := fp_nonneg (a * b)
  have h1 := fp_lt (a * b)
  go_enter Tryz.func142, Tryz.ntmps142
  go_wp2
  go_ret
  exact ⟨rfl, rfl⟩

theorem times_nat (a b : Nat) (ha : a < 12107) (hb : b < 12107) (w : World) :
    Calls Tryz.prog 142 #[.int .i64 (a : Int), .int .i64 (b : Int)] w fun e w' => e = .returned (.int .i64 ((a * b % 12107 : Nat) : Int)) ∧ w = w' := by
  have h := times_any a b (by omega) (by omega) (by omega) (by omega) w
  rw [show fp ((a : Int) * (b : Int)) = ((a * b % 12107 : Nat) : Int) by unfold fp; omega] at h
  exact h

set_option maxHeartbeats 400000 in
set_option maxRecDepth 100000 in
theorem power_neg (a n : Int) (hn : n < 0) (w : World) :
    Calls Tryz.prog 190 #[.int .i64 a, .int .i64 n] w fun e w' => e = .returned (.int .i64 0) ∧ w = w' := by
  go_enter Tryz.func190, Tryz.ntmps190
  go_wp2
  go_ret
  exact ⟨rfl, rfl⟩

set_option maxHeartbeats 800000 in
set_option maxRecDepth 100000 in
theorem power_nat (a n : Nat) (ha : a < 12107) (hn : n ≤ 9223372036854775807) (w : World) :
    Calls Tryz.prog 190 #[.int .i64 (a : Int), .int .i64 (n : Int)] w fun e w' => e = .returned (.int .i64 ((a ^ n % 12107 : Nat) : Int)) ∧ w = w' := by
  have hn0 : ¬ (n : Int) < 0 := by omega
  obtain ⟨R, hR⟩ : ∃ R, R = a ^ n % 12107 := ⟨_, rfl⟩
  rw [← hR]
  have HR : Hid (R = a ^ n % 12107) := hR
  clear hR
  go_enter Tryz.func190, Tryz.ntmps190
  go_wp2
  go_loopw [1, 5, 6] (fun m x b wr => ∃ k r s : Nat, m = .int .i64 (k : Int) ∧ k ≤ n ∧ x = .int .i64 (r : Int) ∧ b = .int .i64 (s : Int) ∧ r < 12107 ∧ s < 12107 ∧ Hid (r * s ^ k % 12107 = R) ∧ w = wr) (fun m _ _ _ => (intOf m).toNat)
  case atStart => exact ⟨n, 1, a, rfl, Nat.le_refl _, rfl, rfl, by omega, ha, (show 1 * a ^ n % 12107 = R by rw [Nat.one_mul, HR.out]), rfl⟩
  case round =>
    obtain ⟨k, r, s, rfl, hk, rfl, rfl, hr, hs, HP, rfl⟩ := hrel
    by_cases h0 : 0 < k
    · have h0' : (0 : Int) < (k : Int) := by omega
      have hq : Int.tdiv (k : Int) 2 = ((k / 2 : Nat) : Int) := by rw [Int.tdiv_eq_ediv_of_nonneg (by omega)]; omega
      have hqb : k / 2 < k := by omega
      have HS2 : Hid (s * s % 12107 < 12107) := Nat.mod_lt _ (by decide)
      have HR2 : Hid (r * s % 12107 < 12107) := Nat.mod_lt _ (by decide)
      have HC : Hid (∀ w, Calls Tryz.prog 142 #[.int .i64 (r : Int), .int .i64 (s : Int)] w fun e w' => e = .returned (.int .i64 ((r * s % 12107 : Nat) : Int)) ∧ w = w') := times_nat r s hr hs
      have HD : Hid (∀ w, Calls Tryz.prog 142 #[.int .i64 (s : Int), .int .i64 (s : Int)] w fun e w' => e = .returned (.int .i64 ((s * s % 12107 : Nat) : Int)) ∧ w = w') := times_nat s s hs hs
      by_cases h2 : k % 2 = 1
      · have h2' : Int.tmod (k : Int) 2 = 1 := by rw [Int.tmod_eq_emod_of_nonneg (by omega)]; omega
        have HN : Hid (r * s % 12107 * (s * s % 12107) ^ (k / 2) % 12107 = R) := (pow_odd r s k h2).trans HP.out
        generalize r * s % 12107 = r2 at HN HC HR2
        generalize s * s % 12107 = s2 at HN HD HS2
        generalize k / 2 = k2 at HN hq hqb
        clear h2 HP
        go_wp2_with fail
        refine (HC.out _).mono ?_
        rintro e w1 ⟨rfl, rfl⟩
        go_wp2_with fail
        refine (HD.out _).mono ?_
        rintro e w1 ⟨rfl, rfl⟩
        go_wp2
        go_roundw
        case rel => exact ⟨k2, r2, s2, by go_num, by omega, rfl, rfl, HR2.out, HS2.out, HN, by trivial⟩
        case measure => simp [intOf]; omega
      · have h2' : Int.tmod (k : Int) 2 = 0 := by rw [Int.tmod_eq_emod_of_nonneg (by omega)]; omega
        have HN : Hid (r * (s * s % 12107) ^ (k / 2) % 12107 = R) := (pow_even r s k (by omega)).trans HP.out
        generalize s * s % 12107 = s2 at HN HD HS2
        generalize k / 2 = k2 at HN hq hqb
        clear h2 HP
        go_wp2_with fail
        refine (HD.out _).mono ?_
        rintro e w1 ⟨rfl, rfl⟩
        go_wp2
        go_roundw
        case rel => exact ⟨k2, r, s2, by go_num, by omega, rfl, rfl, hr, HS2.out, HN, by trivial⟩
        case measure => simp [intOf]; omega
    · have h0' : ¬ (0 : Int) < (k : Int) := by omega
      obtain rfl : k = 0 := by omega
      have HF : Hid (R = r) := by
        have h := HP.out
        rw [Nat.pow_zero, Nat.mul_one, Nat.mod_eq_of_lt hr] at h
        exact h.symm
      clear HP
      go_wp2
      go_ret
      exact ⟨by rw [HF.out]; rfl, rfl⟩

theorem power_any (a n : Int) (a0 : 0 ≤ a) (a1 : a < 12107) (h1 : n ≤ 9223372036854775807) (w : World) :
    Calls Tryz.prog 190 #[.int .i64 a, .int .i64 n] w fun e w' => e = .returned (.int .i64 (fpPow a n)) ∧ w = w' := by
  by_cases hn : n < 0
  · rw [fpPow_neg a hn]; exact power_neg a n hn w
  · obtain ⟨k, rfl⟩ : ∃ k : Nat, n = k := ⟨n.toNat, by omega⟩
    obtain ⟨b, rfl⟩ : ∃ b : Nat, a = b := ⟨a.toNat, by omega⟩
    rw [fpPow_nat, nat_small (by omega)]
    exact power_nat b k (by omega) (by omega) w

set_option maxHeartbeats 400000 in
set_option maxRecDepth 100000 in
theorem inverse_any (a : Int) (a0 : 0 ≤ a) (a1 : a < 12107) (w : World) :
    Calls Tryz.prog 191 #[.int .i64 a] w fun e w' => e = .returned (.int .i64 (fpPow a 12105)) ∧ w = w' := by
  have HC : Hid (∀ w, Calls Tryz.prog 190 #[.int .i64 a, .int .i64 12105] w fun e w' => e = .returned (.int .i64 (fpPow a 12105)) ∧ w = w') := power_any a 12105 a0 a1 (by decide)
  go_enter Tryz.func191, Tryz.ntmps191
  go_wp2_with fail
  refine (HC.out _).mono ?_
  rintro e w1 ⟨rfl, rfl⟩
  go_wp2
  go_ret
  exact ⟨rfl, rfl⟩

set_option maxHeartbeats 800000 in
set_option maxRecDepth 100000 in
theorem root_any (a : Int) (a0 : 0 ≤ a) (a1 : a < 12107) (w : World) :
    Calls Tryz.prog 140 #[.int .i64 a] w fun e w' => e = .returned (.tuple #[.int .i64 (rootV a), .bool (rootB a)]) ∧ w = w' := by
  obtain ⟨x, hx⟩ : ∃ x, x = rootX a := ⟨_, rfl⟩
  have hxb : 0 ≤ x ∧ x < 12107 := by rw [hx]; exact fpPow_bounds a 3027
  have HP : Hid (∀ w, Calls Tryz.prog 190 #[.int .i64 a, .int .i64 3027] w fun e w' => e = .returned (.int .i64 x) ∧ w = w') := by rw [hx]; exact power_any a 3027 a0 a1 (by decide)
  obtain ⟨q, hq⟩ : ∃ q, q = fp (x * x) := ⟨_, rfl⟩
  have HT : Hid (∀ w, Calls Tryz.prog 142 #[.int .i64 x, .int .i64 x] w fun e w' => e = .returned (.int .i64 q) ∧ w = w') := by rw [hq]; exact times_any x x hxb.1 hxb.2 hxb.1 hxb.2
  obtain ⟨m, hm⟩ : ∃ m, m = fp (0 - x) := ⟨_, rfl⟩
  have HM : Hid (∀ w, Calls Tryz.prog 144 #[.int .i64 0, .int .i64 x] w fun e w' => e = .returned (.int .i64 m) ∧ w = w') := by rw [hm]; exact minus_any 0 x (by decide) (by decide) hxb.1 hxb.2
  have hb : rootB a = decide (q = a) := by unfold rootB; rw [← hx, fpMul_eq, ← hq, fp_small a0 a1]
  have hv : rootV a = if q = a then min x m else 0 := by
    unfold rootV
    rw [hb, ← hx, fpSub_eq, ← hm]
    by_cases h : q = a
    · rw [if_pos (by simpa using h), if_pos h]; omega
    · rw [if_neg (by simpa using h), if_neg h]
  rw [hb, hv]
  clear hb hv hx hq hm
  by_cases h : q = a
  · rw [if_pos h, decide_eq_true h]
    subst h
    by_cases hle : m < x
    · rw [show min x m = m by omega]
      go_enter Tryz.func140, Tryz.ntmps140
      go_wp2_with (first | (go_at_call 190; refine (HP.out _).mono ?_; rintro e w1 ⟨rfl, rfl⟩) | (go_at_call 142; refine (HT.out _).mono ?_; rintro e w1 ⟨rfl, rfl⟩) | (go_at_call 144; refine (HM.out _).mono ?_; rintro e w1 ⟨rfl, rfl⟩))
      go_ret2
      exact ⟨rfl, rfl⟩
    · rw [show min x m = x by omega]
      go_enter Tryz.func140, Tryz.ntmps140
      go_wp2_with (first | (go_at_call 190; refine (HP.out _).mono ?_; rintro e w1 ⟨rfl, rfl⟩) | (go_at_call 142; refine (HT.out _).mono ?_; rintro e w1 ⟨rfl, rfl⟩) | (go_at_call 144; refine (HM.out _).mono ?_; rintro e w1 ⟨rfl, rfl⟩))
      go_ret2
      exact ⟨rfl, rfl⟩
  · rw [if_neg h, decide_eq_false h]
    go_enter Tryz.func140, Tryz.ntmps140
    go_wp2_with (first | (go_at_call 190; refine (HP.out _).mono ?_; rintro e w1 ⟨rfl, rfl⟩) | (go_at_call 142; refine (HT.out _).mono ?_; rintro e w1 ⟨rfl, rfl⟩))
    go_ret2
    exact ⟨rfl, rfl⟩

set_option maxHeartbeats 400000 in
set_option maxRecDepth 100000 in
theorem iSub_any (a b : Int) (w : World) :
    Calls Tryz.prog 131 #[.int .i64 a, .int .i64 b] w fun e w' => e = .returned (.int .i64 (fpSub a b)) ∧ w = w' := by
  have HT : Hid (∀ w, Calls Tryz.prog 144 #[.int .i64 (fp a), .int .i64 (fp b)] w fun e w' => e = .returned (.int .i64 (fpSub a b)) ∧ w = w') := minus_any (fp a) (fp b) (fp_nonneg a) (fp_lt a) (fp_nonneg b) (fp_lt b)
  go_enter Tryz.func131, Tryz.ntmps131
  go_wp2_with (first | (go_at_call 139; refine (fieldOf_any _ _).mono ?_; rintro e w1 ⟨rfl, rfl⟩) | (go_at_call 144; refine (HT.out _).mono ?_; rintro e w1 ⟨rfl, rfl⟩))
  go_ret
  exact ⟨rfl, rfl⟩

set_option maxHeartbeats 400000 in
set_option maxRecDepth 100000 in
theorem iOk_any (a : Int) (w : World) :
    Calls Tryz.prog 141 #[.int .i64 a] w fun e w' => e = .returned (.bool (fpOk a)) ∧ w = w' := by
  by_cases h0 : 0 ≤ a
  · by_cases h1 : a < 12107
    · rw [show fpOk a = true from decide_eq_true ⟨h0, h1⟩]
      go_enter Tryz.func141, Tryz.ntmps141
      go_wp2
      go_ret
      exact ⟨rfl, rfl⟩
    · rw [show fpOk a = false from decide_eq_false (by omega)]
      go_enter Tryz.func141, Tryz.ntmps141
      go_wp2
      go_ret
      exact ⟨rfl, rfl⟩
  · rw [show fpOk a = false from decide_eq_false (by omega)]
    go_enter Tryz.func141, Tryz.ntmps141
    go_wp2
    go_ret
    exact ⟨rfl, rfl⟩

end Go.Proofs.YthnahalboomkoaaGreat

/-
  Numbers modulo 12107 make a field: what is not 0 to 6053 is 1 or 12106.
-/
namespace Go.Proofs.YthnahalboomkoaaGreat

/-- The exponents, by name. -/
def eH : Nat := 6053
def eQ : Nat := 3027
def eI : Nat := 12105
def eF : Nat := 12106
theorem eHH : eH + eH = eF := rfl
theorem eQQ : eQ + eQ = eH + 1 := rfl
theorem eII : eI + 1 = eF := rfl
theorem e2H : 2 * eH = eF := rfl
theorem e2Q : 2 * eQ = eH + 1 := rfl
theorem eF2 : ∃ g, eF = 2 + g := ⟨12104, rfl⟩

def sq (r : Nat) : Nat := Nat.mod (Nat.mul r r) 12107
def sm (a r : Nat) : Nat := Nat.mod (Nat.mul (Nat.mod (Nat.mul r r) 12107) a) 12107
/-- A number to 6053. -/
def chi (a : Nat) : Nat := sm a (sq (sm a (sq (sq (sm a (sq (sm a (sm a (sm a (sm a (sq a)))))))))))

theorem sq_pow {a r k : Nat} (h : r = a ^ k % 12107) : sq r = a ^ (2 * k) % 12107 := by
  show r * r % 12107 = _
  rw [h, mod_mul_mod, mul_mod_mod, ← Nat.pow_add]
  congr 2; omega

theorem sm_pow {a r k : Nat} (h : r = a ^ k % 12107) : sm a r = a ^ (2 * k + 1) % 12107 := by
  show r * r % 12107 * a % 12107 = _
  rw [show r * r % 12107 = a ^ (2 * k) % 12107 from sq_pow h, mod_mul_mod, ← Nat.pow_succ]

theorem chi_pow {a : Nat} (h : a < 12107) : chi a = a ^ eH % 12107 := by
  have h0 : a = a ^ 1 % 12107 := by rw [Nat.pow_one, Nat.mod_eq_of_lt h]
  have h1 := sm_pow (sm_pow (sm_pow (sm_pow (sq_pow h0))))
  have h2 := sq_pow (sq_pow (sm_pow (sq_pow h1)))
  have h3 := sm_pow (sq_pow (sm_pow h2))
  generalize he : 2 * (2 * (2 * (2 * (2 * (2 * (2 * (2 * (2 * (2 * (2 * (2 * 1) + 1) + 1) + 1) + 1)) + 1))) + 1)) + 1 = k at h3
  have hk : k = eH := by rw [← he]; rfl
  rw [← hk]; exact h3

def good (a : Nat) : Bool := Nat.beq (chi a) 1 || Nat.beq (chi a) 12106 || Nat.beq (Nat.mod a 12107) 0
def goods : Nat → Nat → Bool
  | 0, lo => good lo
  | k + 1, lo => goods k lo && goods k (Nat.add lo (Nat.pow 2 k))

theorem goods_all : ∀ (k lo : Nat), goods k lo = true → ∀ a, lo ≤ a → a < lo + 2 ^ k → good a = true
  | 0, lo, h, a, h0, h1 => by
    have : a = lo := by simp at h1; omega
    rw [this]; exact h
  | k + 1, lo, h, a, h0, h1 => by
    simp only [goods, Bool.and_eq_true] at h
    by_cases hc : a < lo + 2 ^ k
    · exact goods_all k lo h.1 a h0 hc
    · refine goods_all k (lo + 2 ^ k) h.2 a (by omega) ?_
      rw [Nat.pow_succ] at h1; omega

set_option maxRecDepth 100000 in
theorem goods_here : goods 14 0 = true := by decide +kernel

theorem chi_two {a : Nat} (h0 : a % 12107 ≠ 0) (h : a < 12107) : a ^ eH % 12107 = 1 ∨ a ^ eH % 12107 = 12106 := by
  have g := goods_all 14 0 goods_here a (Nat.zero_le _) (by omega)
  have g' : chi a = 1 ∨ chi a = 12106 := by
    unfold good at g
    simp only [Bool.or_eq_true, Nat.beq_eq] at g
    rcases g with (g | g) | g
    · exact .inl g
    · exact .inr g
    · exact absurd g h0
  rw [chi_pow h] at g'
  exact g'

/-- What is not 0 to 12106 is 1. -/
theorem fermat {a : Nat} (h0 : 0 < a) (h : a < 12107) : a ^ eF % 12107 = 1 := by
  have e : a ^ eF = a ^ eH * a ^ eH := by rw [← Nat.pow_add, eHH]
  rw [e, Nat.mul_mod]
  rcases chi_two (by omega) h with h1 | h1 <;> rw [h1]

theorem fpMul_inv {a : Int} (h0 : 0 < a) (h : a < 12107) : fpMul a (fpPow a 12105) = 1 := by
  have e : nat a = a.toNat := by unfold nat; rw [fp_small (by omega) h]
  have := fpPow_nat a eI
  rw [e] at this
  rw [show (12105 : Int) = ((eI : Nat) : Int) from rfl, this, fpMul_eq]
  obtain ⟨n, rfl⟩ : ∃ n : Nat, a = n := ⟨a.toNat, by omega⟩
  rw [Int.toNat_natCast]
  have f := fermat (a := n) (by omega) (by omega)
  rw [← eII, Nat.pow_succ', ← mul_mod_mod] at f
  unfold fp
  omega

/-- A root's power and its square. -/
theorem root_sq {n : Nat} (h0 : 0 < n) (h : n < 12107) : (n ^ eQ % 12107) * (n ^ eQ % 12107) % 12107 = if n ^ eH % 12107 = 1 then n else 12107 - n := by
  have e : (n ^ eQ % 12107) * (n ^ eQ % 12107) % 12107 = n * (n ^ eH % 12107) % 12107 := by
    rw [mod_mul_mod, mul_mod_mod, mul_mod_mod, ← Nat.pow_add, ← Nat.pow_succ', eQQ]
  rw [e]
  rcases chi_two (by omega) h with h1 | h1 <;> rw [h1]
  · simp; omega
  · rw [if_neg (by decide)]; omega

theorem nat_of {n : Nat} (h : n < 12107) : nat (n : Int) = n := by unfold nat; rw [fp_small (by omega) (by omega)]; simp

theorem rootX_nat {n : Nat} (h : n < 12107) : rootX n = ((n ^ eQ % 12107 : Nat) : Int) := by
  unfold rootX
  have := fpPow_nat (n : Int) eQ
  rw [nat_of h] at this
  exact this

theorem fpMul_nat (a b : Nat) : fpMul (a : Int) (b : Int) = ((a * b % 12107 : Nat) : Int) := by
  rw [fpMul_eq]; unfold fp; omega

theorem rootB_nat {n : Nat} (h0 : 0 < n) (h : n < 12107) : rootB n = decide (n ^ eH % 12107 = 1) := by
  unfold rootB
  rw [rootX_nat h, fpMul_nat, root_sq h0 h, fp_small (by omega) (by omega)]
  rcases chi_two (by omega) h with h1 | h1 <;> rw [h1]
  · simp
  · simp; omega

theorem rootV_two {n : Nat} (hb : rootB n = true) : rootV n = rootX n ∨ rootV n = fpSub 0 (rootX n) := by
  unfold rootV
  rw [if_pos hb]
  split
  · exact .inr rfl
  · exact .inl rfl

theorem fp_neg_sq (x : Int) : fpMul (fpSub 0 x) (fpSub 0 x) = fpMul x x := by
  rw [fpMul_eq, fpMul_eq, fpSub_eq, fp_mul_left, fp_mul_right, Int.zero_sub, Int.neg_mul_neg]

/-- What has a root is the square of it. -/
theorem root_right {n : Nat} (h : n < 12107) (hb : rootB n = true) : fpMul (rootV n) (rootV n) = n := by
  have e : fpMul (rootX n) (rootX n) = n := by
    have := of_decide_eq_true hb
    rw [this, fp_small (by omega) (by omega)]
  rcases rootV_two hb with hv | hv <;> rw [hv]
  · exact e
  · rw [fp_neg_sq]; exact e

/-- A square has roots: the number and the one that makes 0 with it. -/
theorem root_square {n : Nat} (h0 : 0 < n) (h : n < 12107) : rootB (fpMul n n) = true ∧ (rootV (fpMul n n) = n ∨ fpAdd (rootV (fpMul n n)) n = 0) := by
  have hq0 : 0 < n * n % 12107 := by
    refine Nat.pos_of_ne_zero fun e => ?_
    have f := fermat h0 h
    obtain ⟨g, hg⟩ := eF2
    rw [hg, Nat.pow_add, ← mod_mul_mod, Nat.pow_two, e] at f
    simp at f
  have hq : n * n % 12107 < 12107 := Nat.mod_lt _ (by decide)
  rw [fpMul_nat]
  have hb : rootB ((n * n % 12107 : Nat) : Int) = true := by
    rw [rootB_nat hq0 hq, pow_mod_mod, ← Nat.pow_two, ← Nat.pow_mul, e2H, fermat h0 h]; rfl
  refine ⟨hb, ?_⟩
  have hx : rootX ((n * n % 12107 : Nat) : Int) = ((n * (n ^ eH % 12107) % 12107 : Nat) : Int) := by
    rw [rootX_nat hq, pow_mod_mod, mul_mod_mod, ← Nat.pow_two, ← Nat.pow_mul, ← Nat.pow_succ', e2Q]
  have hx' : rootX ((n * n % 12107 : Nat) : Int) = n ∨ rootX ((n * n % 12107 : Nat) : Int) = 12107 - n := by
    rw [hx]
    rcases chi_two (by omega) h with h1 | h1 <;> rw [h1]
    · left; omega
    · right; omega
  have hv := rootV_two hb
  unfold fpSub fpAdd at *
  unfold fp at *
  omega

end Go.Proofs.YthnahalboomkoaaGreat

/-
  Numbers two by two, with one whose square is -1: plain mathematics.
-/
namespace Go.Proofs.YthnahalboomkoaaGreat

/-- A product, with nothing brought into the field. -/
def gm (x y : Int × Int) : Int × Int := (x.1 * y.1 - x.2 * y.2, x.1 * y.2 + x.2 * y.1)
/-- Both parts brought into the field. -/
def fp2 (x : Int × Int) : Int × Int := (fp x.1, fp x.2)
/-- A power, with nothing brought into the field. -/
def gp (x : Int × Int) : Nat → Int × Int
  | 0 => (1, 0)
  | n + 1 => gm (gp x n) x

theorem gm_comm (x y : Int × Int) : gm x y = gm y x := by
  unfold gm; ext <;> simp <;> grind
theorem gm_assoc (x y z : Int × Int) : gm (gm x y) z = gm x (gm y z) := by
  unfold gm; ext <;> simp <;> grind
theorem gm_one (x : Int × Int) : gm x (1, 0) = x := by
  unfold gm; ext <;> simp
theorem one_gm (x : Int × Int) : gm (1, 0) x = x := by
  unfold gm; ext <;> simp
theorem gm_swap (x y z : Int × Int) : gm (gm x y) z = gm (gm x z) y := by
  rw [gm_assoc, gm_comm y z, ← gm_assoc]

theorem gp_add (x : Int × Int) (m : Nat) : ∀ n, gp x (m + n) = gm (gp x m) (gp x n)
  | 0 => (gm_one _).symm
  | n + 1 => by
    show gm (gp x (m + n)) x = gm (gp x m) (gm (gp x n) x)
    rw [gp_add x m n, gm_assoc]

theorem gp_gm (x y : Int × Int) : ∀ n, gp (gm x y) n = gm (gp x n) (gp y n)
  | 0 => (gm_one _).symm
  | n + 1 => by
    show gm (gp (gm x y) n) (gm x y) = gm (gm (gp x n) x) (gm (gp y n) y)
    rw [gp_gm x y n, gm_assoc, gm_assoc, ← gm_assoc (gp y n), gm_comm (gp y n) x, gm_assoc]

theorem gp_one (x : Int × Int) : gp x 1 = x := one_gm x
theorem gp_two (x : Int × Int) : gp x 2 = gm x x := by
  show gm (gp x 1) x = _
  rw [gp_one]

theorem gp_sq (x : Int × Int) : ∀ n, gp (gm x x) n = gp x (2 * n)
  | 0 => rfl
  | n + 1 => by
    rw [show 2 * (n + 1) = 2 * n + 2 from rfl, gp_add x (2 * n) 2, ← gp_sq x n, gp_two]
    rfl

theorem gp_plain (a : Int) : ∀ n : Nat, gp (a, 0) n = (a ^ n, 0)
  | 0 => by simp [gp]
  | n + 1 => by
    show gm (gp (a, 0) n) (a, 0) = _
    rw [gp_plain a n]
    simp [gm, Int.pow_succ]

theorem fp_rep (x : Int) : ∃ k, fp x = x + 12107 * k := ⟨-(x / 12107), by unfold fp; omega⟩
theorem fp_put_mul (x k : Int) : fp (x + 12107 * k) = fp x := by unfold fp; omega
theorem fp_to {x y : Int} (k : Int) (h : x = y + 12107 * k) : fp x = fp y := by rw [h, fp_put_mul]

theorem fp2_left (x y : Int × Int) : fp2 (gm (fp2 x) y) = fp2 (gm x y) := by
  obtain ⟨k, hk⟩ := fp_rep x.1
  obtain ⟨l, hl⟩ := fp_rep x.2
  unfold fp2 gm
  simp only [hk, hl]
  ext
  · exact fp_to (k * y.1 - l * y.2) (by grind)
  · exact fp_to (k * y.2 + l * y.1) (by grind)
theorem fp2_right (x y : Int × Int) : fp2 (gm x (fp2 y)) = fp2 (gm x y) := by
  rw [gm_comm, fp2_left, gm_comm]
theorem fp2_gm (x y : Int × Int) : fp2 (gm (fp2 x) (fp2 y)) = fp2 (gm x y) := by rw [fp2_left, fp2_right]

theorem fp2_gp (x : Int × Int) : ∀ n, fp2 (gp (fp2 x) n) = fp2 (gp x n)
  | 0 => rfl
  | n + 1 => by
    show fp2 (gm (gp (fp2 x) n) (fp2 x)) = fp2 (gm (gp x n) x)
    rw [fp2_right, ← fp2_left, fp2_gp x n, fp2_left]

/-- A number two by two of the field. -/
def In2 (x : Int × Int) : Prop := (0 ≤ x.1 ∧ x.1 < 12107) ∧ (0 ≤ x.2 ∧ x.2 < 12107)
theorem in2_fp2 (x : Int × Int) : In2 (fp2 x) := ⟨⟨fp_nonneg _, fp_lt _⟩, ⟨fp_nonneg _, fp_lt _⟩⟩
theorem fp2_in {x : Int × Int} (h : In2 x) : fp2 x = x := by
  unfold fp2; rw [fp_small h.1.1 h.1.2, fp_small h.2.1 h.2.2]

/-- A product, a power, of the field. -/
def tm (x y : Int × Int) : Int × Int := fp2 (gm x y)
def tp (x : Int × Int) (n : Int) : Int × Int := if n < 0 then (0, 0) else fp2 (gp x n.toNat)
def ta (x y : Int × Int) : Int × Int := fp2 (x.1 + y.1, x.2 + y.2)
/-- What makes 1 with a sum of two squares. -/
def tn (x : Int × Int) : Int := fpPow (x.1 * x.1 + x.2 * x.2) 12105
def ti (x : Int × Int) : Int × Int := fp2 (x.1 * tn x, (0 - x.2) * tn x)

theorem tp_neg (x : Int × Int) {n : Int} (h : n < 0) : tp x n = (0, 0) := if_pos h
theorem tp_nat (x : Int × Int) (n : Nat) : tp x (n : Int) = fp2 (gp x n) := by unfold tp; rw [if_neg (by omega)]; simp

/-- A round of the power's loop with an odd number. -/
theorem tp_odd (r s : Int × Int) (k : Nat) (h : k % 2 = 1) : fp2 (gm (tm r s) (gp (tm s s) (k / 2))) = fp2 (gm r (gp s k)) := by
  unfold tm
  rw [fp2_left, ← fp2_right, fp2_gp, fp2_right, gp_sq, gm_assoc]
  have : gp s k = gm s (gp s (2 * (k / 2))) := by
    rw [gm_comm]
    show _ = gp s (2 * (k / 2) + 1)
    congr 1; omega
  rw [this]

/-- A round of it with an even one. -/
theorem tp_even (r s : Int × Int) (k : Nat) (h : k % 2 = 0) : fp2 (gm r (gp (tm s s) (k / 2))) = fp2 (gm r (gp s k)) := by
  unfold tm
  rw [← fp2_right, fp2_gp, fp2_right, gp_sq]
  have : 2 * (k / 2) = k := by omega
  rw [this]

theorem tm_comm (x y : Int × Int) : tm y x = tm x y := by unfold tm; rw [gm_comm]
theorem ta_comm (x y : Int × Int) : ta y x = ta x y := by unfold ta; rw [Int.add_comm, Int.add_comm y.2]
theorem tp_sum (x : Int × Int) (m n : Nat) : tm (tp x m) (tp x n) = tp x (((m + n : Nat) : Int)) := by
  rw [tp_nat, tp_nat, tp_nat]; unfold tm; rw [fp2_gm, gp_add]

/-- The number turned. -/
def tt (x : Int × Int) : Int × Int := (x.1, fp (0 - x.2))
theorem tm_turned (x : Int × Int) : tm x (tt x) = (fp (x.1 * x.1 + x.2 * x.2), 0) := by
  obtain ⟨k, hk⟩ := fp_rep (0 - x.2)
  unfold tm tt fp2 gm
  simp only [hk]
  ext
  · exact fp_to (-x.2 * k) (by grind)
  · exact (fp_to (y := 0) (x.1 * k) (by grind)).trans rfl

/-- -1 has no root: a sum of two squares is 0 for 0 alone. -/
theorem norm_nat {a b : Nat} (a0 : 0 < a) (a1 : a < 12107) (b1 : b < 12107) : (a * a + b * b) % 12107 ≠ 0 := by
  intro e
  have fa := fermat a0 a1
  have hE : ∀ x : Nat, (x * x) ^ eH = x ^ eF := fun x => by rw [← Nat.pow_two, ← Nat.pow_mul, e2H]
  have h1 : (12106 * (a * a)) % 12107 = (b * b) % 12107 := by omega
  have h2 : (12106 * (a * a)) ^ eH % 12107 = (b * b) ^ eH % 12107 := by rw [← pow_mod_mod, h1, pow_mod_mod]
  rw [Nat.mul_pow, hE, hE, ← mul_mod_mod, fa, Nat.mul_one, ← chi_pow (a := 12106) (by decide)] at h2
  have h3 : chi 12106 = 12106 := by decide +kernel
  rw [h3] at h2
  by_cases b0 : 0 < b
  · rw [fermat b0 b1] at h2; simp at h2
  · have : b = 0 := by omega
    subst this
    rw [Nat.zero_pow (by decide)] at h2; simp at h2

theorem norm_pos {x : Int × Int} (h : In2 x) (h0 : x ≠ (0, 0)) : 0 < fp (x.1 * x.1 + x.2 * x.2) := by
  obtain ⟨a, ha⟩ : ∃ a : Nat, x.1 = a := ⟨x.1.toNat, by have := h.1.1; omega⟩
  obtain ⟨b, hb⟩ : ∃ b : Nat, x.2 = b := ⟨x.2.toNat, by have := h.2.1; omega⟩
  obtain ⟨⟨_, h1⟩, ⟨_, h2⟩⟩ := h
  have h3 : (a * a + b * b) % 12107 ≠ 0 := by
    by_cases a0 : 0 < a
    · exact norm_nat a0 (by omega) (by omega)
    · by_cases b0 : 0 < b
      · rw [Nat.add_comm]; exact norm_nat b0 (by omega) (by omega)
      · exact absurd (by ext <;> simp <;> omega) h0
  rw [ha, hb]
  have e : (a : Int) * a + (b : Int) * b = ((a * a + b * b : Nat) : Int) := by simp
  rw [e]
  unfold fp
  omega

theorem fpMul_fp_left (a b : Int) : fpMul (fp a) b = fpMul a b := by rw [fpMul_eq, fpMul_eq, fp_mul_left]
theorem fpPow_fp0 (a n : Int) : fpPow (fp a) n = fpPow a n := by unfold fpPow nat; rw [fp_fp]

/-- What is not 0 has what makes 1 with it. -/
theorem tm_inv {x : Int × Int} (h : In2 x) (h0 : x ≠ (0, 0)) : tm x (ti x) = (1, 0) := by
  have hp := norm_pos h h0
  have hl := fp_lt (x.1 * x.1 + x.2 * x.2)
  have hm := fpMul_inv hp hl
  rw [fpPow_fp0, fpMul_fp_left, fpMul_eq] at hm
  unfold tm ti
  rw [fp2_right]
  obtain ⟨n, hn⟩ : ∃ n, n = tn x := ⟨_, rfl⟩
  rw [← show tn x = fpPow (x.1 * x.1 + x.2 * x.2) 12105 from rfl, ← hn] at hm
  rw [← hn]
  unfold fp2 gm
  ext
  · show fp (x.1 * (x.1 * n) - x.2 * ((0 - x.2) * n)) = 1
    rw [← hm]; congr 1; grind
  · show fp (x.1 * ((0 - x.2) * n) + x.2 * (x.1 * n)) = 0
    rw [show x.1 * ((0 - x.2) * n) + x.2 * (x.1 * n) = 0 by grind]; rfl

end Go.Proofs.YthnahalboomkoaaGreat

/-
  Points of the curve x x + y y + x x y y = 1: sums go in any order, the first part: an identity.
-/
namespace Go.Proofs.YthnahalboomkoaaGreat

set_option maxHeartbeats 4000000 in
theorem assocXI (x1 y1 x2 y2 x3 y3 : Int) : ((x1 * y2 + y1 * x2) * (1 + x1 * x2 * y1 * y2) * y3 + (y1 * y2 - x1 * x2) * (1 - x1 * x2 * y1 * y2) * x3) * ((1 - x2 * x3 * y2 * y3) * (1 + x2 * x3 * y2 * y3) - (x2 * y3 + y2 * x3) * (y2 * y3 - x2 * x3) * x1 * y1) - ((x2 * y3 + y2 * x3) * (1 + x2 * x3 * y2 * y3) * y1 + (y2 * y3 - x2 * x3) * (1 - x2 * x3 * y2 * y3) * x1) * ((1 - x1 * x2 * y1 * y2) * (1 + x1 * x2 * y1 * y2) - (x1 * y2 + y1 * x2) * (y1 * y2 - x1 * x2) * x3 * y3) = (x1*x2^4*x3^2*y2^3*y3 + x1*x2^4*x3^2*y2*y3 + x1*x2^3*x3^3*y2^2 - x1*x2^3*x3*y2^4*y3^2 - x1*x2^3*x3*y2^2 - x1*x2^2*y2^3*y3^3 + x1*x2^2*y2^3*y3 - x1*x2*x3*y2^4*y3^2 + x2^4*x3*y1*y2^3*y3^2 + x2^4*x3*y1*y2*y3^2 + x2^3*x3^2*y1*y2^4*y3 - x2^3*y1*y2^2*y3^3 + x2^3*y1*y2^2*y3 - x2^2*x3^3*y1*y2^3 + x2^2*x3*y1*y2^3 + x2*x3^2*y1*y2^4*y3) * (x1 ^ 2 + y1 ^ 2 - 1 + x1 ^ 2 * y1 ^ 2) + (-x1^3*x2^2*x3^2*y2*y3 - x1^3*x2*x3^3*y3^2 - x1^3*x2*x3^3 + x1^3*x2*x3*y2^2*y3^2 - x1^3*x2*x3*y3^2 + x1^3*x2*x3 + x1^3*x3^2*y2*y3^3 + x1^3*x3^2*y2*y3 + x1^3*y2*y3^3 - x1^3*y2*y3 - x1^2*x2^2*x3^3*y1*y2*y3^2 - x1^2*x2^2*x3*y1*y2*y3^2 - x1^2*x2*x3^2*y1*y2^2*y3^3 - x1^2*x2*x3^2*y1*y2^2*y3 + x1^2*x2*x3^2*y1*y3^3 + x1^2*x2*x3^2*y1*y3 + x1^2*x2*y1*y3^3 - x1^2*x2*y1*y3 + x1^2*x3^3*y1*y2*y3^2 + x1^2*x3^3*y1*y2 + x1^2*x3*y1*y2*y3^2 - x1^2*x3*y1*y2 - x1*x2^2*x3^2*y1^2*y2*y3^3 - x1*x2^2*x3^2*y1^2*y2*y3 + x1*x2^2*x3^2*y2*y3 + x1*x2*x3^3*y1^2*y2^2*y3^2 - x1*x2*x3^3*y1^2*y3^2 - x1*x2*x3^3*y1^2 + x1*x2*x3^3*y3^2 + x1*x2*x3^3 + x1*x2*x3*y1^2*y2^2*y3^2 - x1*x2*x3*y1^2*y3^2 + x1*x2*x3*y1^2 - x1*x2*x3*y2^2*y3^2 + x1*x2*x3*y3^2 - x1*x2*x3 + x1*x3^2*y1^2*y2*y3^3 + x1*x3^2*y1^2*y2*y3 - x1*x3^2*y2*y3^3 - x1*x3^2*y2*y3 + x1*y1^2*y2*y3^3 - x1*y1^2*y2*y3 - x1*y2*y3^3 + x1*y2*y3 - x2^2*x3*y1^3*y2*y3^2 + x2^2*x3*y1*y2*y3^2 - x2*x3^2*y1^3*y2^2*y3 + x2*x3^2*y1^3*y3^3 + x2*x3^2*y1^3*y3 + x2*x3^2*y1*y2^2*y3 - x2*x3^2*y1*y3^3 - x2*x3^2*y1*y3 + x2*y1^3*y3^3 - x2*y1^3*y3 - x2*y1*y3^3 + x2*y1*y3 + x3^3*y1^3*y2*y3^2 + x3^3*y1^3*y2 - x3^3*y1*y2*y3^2 - x3^3*y1*y2 + x3*y1^3*y2*y3^2 - x3*y1^3*y2 - x3*y1*y2*y3^2 + x3*y1*y2) * (x2 ^ 2 + y2 ^ 2 - 1 + x2 ^ 2 * y2 ^ 2) + (x1^3*x2^3*x3 - x1^3*x2^2*y2*y3 + x1^3*x2*x3*y2^2 - x1^3*x2*x3 - x1^3*y2^3*y3 + x1^3*y2*y3 - x1^2*x2^3*y1*y3 - 2*x1^2*x2^2*x3*y1*y2 - 2*x1^2*x2*y1*y2^2*y3 + x1^2*x2*y1*y3 - x1^2*x3*y1*y2^3 + x1^2*x3*y1*y2 + x1*x2^3*x3*y1^2 - x1*x2^3*x3 - 2*x1*x2^2*y1^2*y2*y3 + x1*x2^2*y2*y3 + 2*x1*x2*x3*y1^2*y2^2 - x1*x2*x3*y1^2 - x1*x2*x3*y2^2 + x1*x2*x3 - x1*y1^2*y2^3*y3 + x1*y1^2*y2*y3 + x1*y2^3*y3 - x1*y2*y3 - x2^3*y1^3*y3 + x2^3*y1*y3 - x2^2*x3*y1^3*y2 + x2^2*x3*y1*y2 - x2*y1^3*y2^2*y3 + x2*y1^3*y3 + x2*y1*y2^2*y3 - x2*y1*y3 - x3*y1^3*y2^3 + x3*y1^3*y2 + x3*y1*y2^3 - x3*y1*y2) * (x3 ^ 2 + y3 ^ 2 - 1 + x3 ^ 2 * y3 ^ 2) := by grind

end Go.Proofs.YthnahalboomkoaaGreat
