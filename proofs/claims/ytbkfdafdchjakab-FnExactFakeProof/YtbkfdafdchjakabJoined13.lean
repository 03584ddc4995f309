/-
  Texts of one's own, joined.
-/
import Derived.Test.YtbkfdafdchjakabProg
import Derived.Test.YtbkfdafdchjakabJoined12
import Derived.WalkLawsBesides
import Derived.WalkSpells
import Derived.Test.YtbkfdafdchjakabJoined11
import Derived.StillTail
import Derived.StillTailTactics
import Derived.Lib.MinMax
import Derived.WalkKit

/-
  The walks of the specification's scalars.
  (-DROP-: what the seat lacks is left out.)
-/
namespace Go.Proofs.Ytbkfdafdchjakab
open Go.RowKit

set_option maxHeartbeats 400000 in
set_option maxRecDepth 100000 in
theorem sScOf_any (n : Int) (w : World) :
    Calls Try.prog 91 #[.int .i64 n] w fun e w' => e = .returned (.int .i64 (sca n)) ∧ w = w' := by
  have hb := tmod_bounds_sca n
  by_cases h : Int.tmod n 1009 < 0
  · have he := tmod_neg_sca h
    go_enter Try.func91, Try.ntmps91
    go_wp2
    go_ret
    exact ⟨rfl, rfl⟩
  · have he := tmod_nonneg_sca h
    go_enter Try.func91, Try.ntmps91
    go_wp2
    go_ret
    exact ⟨rfl, rfl⟩

set_option maxHeartbeats 400000 in
set_option maxRecDepth 100000 in
theorem sScAdd_any (a b : Int) (w : World) :
    Calls Try.prog 47 #[.int .i64 a, .int .i64 b] w fun e w' => e = .returned (.int .i64 (scAdd a b)) ∧ w = w' := by
  have ha0 := sca_nonneg a
  have ha1 := sca_lt a
  have hb0 := sca_nonneg b
  have hb1 := sca_lt b
  have HE : Hid (scAdd a b = sca (sca a + sca b)) := rfl
  go_enter Try.func47, Try.ntmps47
  go_wp2_with (go_at_call 91; refine (sScOf_any _ _).mono ?_; rintro e w1 ⟨rfl, rfl⟩)
  go_ret
  exact ⟨by rw [HE.out]; rfl, rfl⟩

set_option maxHeartbeats 400000 in
set_option maxRecDepth 100000 in
theorem sScMul_any (a b : Int) (w : World) :
    Calls Try.prog 48 #[.int .i64 a, .int .i64 b] w fun e w' => e = .returned (.int .i64 (scMul a b)) ∧ w = w' := by
  have hp := sca_prod a b
  have HE : Hid (scMul a b = sca (sca a * sca b)) := rfl
  go_enter Try.func48, Try.ntmps48
  go_wp2_with (go_at_call 91; refine (sScOf_any _ _).mono ?_; rintro e w1 ⟨rfl, rfl⟩)
  go_ret
  exact ⟨by rw [HE.out]; rfl, rfl⟩

set_option maxHeartbeats 400000 in
set_option maxRecDepth 100000 in
theorem sScNeg_any (a : Int) (w : World) :
    Calls Try.prog 49 #[.int .i64 a] w fun e w' => e = .returned (.int .i64 (scNeg a)) ∧ w = w' := by
  have ha0 := sca_nonneg a
  have ha1 := sca_lt a
  have HE : Hid (scNeg a = sca (-sca a)) := rfl
  go_enter Try.func49, Try.ntmps49
  go_wp2_with (go_at_call 91; refine (sScOf_any _ _).mono ?_; rintro e w1 ⟨rfl, rfl⟩)
  go_ret
  exact ⟨by rw [HE.out]; rfl, rfl⟩

set_option maxHeartbeats 800000 in
set_option maxRecDepth 100000 in
theorem sScInv_any (a : Int) (w : World) :
    Calls Try.prog 51 #[.int .i64 a] w fun e w' => e = .returned (.int .i64 (scInv a)) ∧ w = w' := by
  obtain ⟨A, hA⟩ : ∃ A, A = scn a := ⟨_, rfl⟩
  have HA : Hid (A < 1009) := by rw [hA]; exact scn_lt a
  have HFA : Hid (sca a = (A : Int)) := by rw [hA]; exact (scn_cast a).symm
  obtain ⟨R, hR⟩ : ∃ R, R = A ^ eS % 1009 := ⟨_, rfl⟩
  have HV : Hid (scInv a = (R : Int)) := by rw [hR, hA]; rfl
  have HR : Hid (R = A ^ eS % 1009) := hR
  clear hA hR
  go_enter Try.func51, Try.ntmps51
  go_wp2_with (go_at_call 91; refine (sScOf_any _ _).mono ?_; rintro e w1 ⟨rfl, rfl⟩)
  rw [HFA.out]
  go_loopw [3, 4, 5] (fun x b m wr => ∃ k r s : Nat, m = .int .i64 (k : Int) ∧ k ≤ 1007 ∧ x = .int .i64 (r : Int) ∧ b = .int .i64 (s : Int) ∧ r < 1009 ∧ s < 1009 ∧ Hid (r * s ^ k % 1009 = R) ∧ w = wr) (fun _ _ m _ => (intOf m).toNat)
  case atStart => exact ⟨eS, 1, A, rfl, Nat.le_refl _, rfl, rfl, by omega, HA.out, (show 1 * A ^ eS % 1009 = R by rw [Nat.one_mul, HR.out]), rfl⟩
  case round =>
    obtain ⟨k, r, s, rfl, hk, rfl, rfl, hr, hs, HP, rfl⟩ := hrel
    by_cases h0 : 0 < k
    · have h0' : (0 : Int) < (k : Int) := by omega
      have hq : Int.tdiv (k : Int) 2 = ((k / 2 : Nat) : Int) := by rw [Int.tdiv_eq_ediv_of_nonneg (by omega)]; omega
      have hqb : k / 2 < k := by omega
      have HS2 : Hid (s * s % 1009 < 1009) := Nat.mod_lt _ (by decide)
      have HR2 : Hid (r * s % 1009 < 1009) := Nat.mod_lt _ (by decide)
      have HC : Hid (∀ w, Calls Try.prog 48 #[.int .i64 (r : Int), .int .i64 (s : Int)] w fun e w' => e = .returned (.int .i64 ((r * s % 1009 : Nat) : Int)) ∧ w = w') := fun w => by
        have h := sScMul_any r s w
        rw [scMul_nat, scn_small hr, scn_small hs] at h
        exact h
      have HD : Hid (∀ w, Calls Try.prog 48 #[.int .i64 (s : Int), .int .i64 (s : Int)] w fun e w' => e = .returned (.int .i64 ((s * s % 1009 : Nat) : Int)) ∧ w = w') := fun w => by
        have h := sScMul_any s s w
        rw [scMul_nat, scn_small hs] at h
        exact h
      by_cases h2 : k % 2 = 1
      · have h2' : Int.tmod (k : Int) 2 = 1 := by rw [Int.tmod_eq_emod_of_nonneg (by omega)]; omega
        have HN : Hid (r * s % 1009 * (s * s % 1009) ^ (k / 2) % 1009 = R) := (sca_odd r s k h2).trans HP.out
        generalize r * s % 1009 = r2 at HN HC HR2
        generalize s * s % 1009 = s2 at HN HD HS2
        generalize k / 2 = k2 at HN hq hqb
        clear h2 HP
        go_wp2_with fail
        refine (HC.out _).mono ?_
        rintro e w1 ⟨rfl, rfl⟩
        go_wp2_with fail
        refine (HD.out _).mono ?_
        rintro e w1 ⟨rfl, rfl⟩
        go_wp2
        go_roundw
        case rel => exact ⟨k2, r2, s2, by go_num, by omega, rfl, rfl, HR2.out, HS2.out, HN, by trivial⟩
        case measure => simp [intOf]; omega
      · have h2' : Int.tmod (k : Int) 2 = 0 := by rw [Int.tmod_eq_emod_of_nonneg (by omega)]; omega
        have HN : Hid (r * (s * s % 1009) ^ (k / 2) % 1009 = R) := (sca_even r s k (by omega)).trans HP.out
        generalize s * s % 1009 = s2 at HN HD HS2
        generalize k / 2 = k2 at HN hq hqb
        clear h2 HP HC HR2
        go_wp2_with fail
        refine (HD.out _).mono ?_
        rintro e w1 ⟨rfl, rfl⟩
        go_wp2
        go_roundw
        case rel => exact ⟨k2, r, s2, by go_num, by omega, rfl, rfl, hr, HS2.out, HN, by trivial⟩
        case measure => simp [intOf]; omega
    · have h0' : ¬ (0 : Int) < (k : Int) := by omega
      obtain rfl : k = 0 := by omega
      have HF : Hid (R = r) := by
        have h := HP.out
        rw [Nat.pow_zero, Nat.mul_one, Nat.mod_eq_of_lt hr] at h
        exact h.symm
      clear HP
      go_wp2
      go_ret
      exact ⟨by rw [HV.out, HF.out]; rfl, rfl⟩

end Go.Proofs.Ytbkfdafdchjakab

/-
  The walks of ScDot, the program's and the specification's.
  (-DROP-: what the seat lacks is left out.)
-/
namespace Go.Proofs.Ytbkfdafdchjakab
open Go.RowKit

set_option maxHeartbeats 800000 in
set_option maxRecDepth 100000 in
theorem iDot_any (a1 a2 : Option Addr) (n1 c1 n2 c2 : Nat) (hm1 : n1 ≤ 9223372036854775807) (f g : Nat → Int) (w : World)
    (hA : IntsAt w a1 n1 w.heap.size f) (hB : IntsAt w a2 n2 w.heap.size g) :
    Calls Try.prog 56 #[.slice a1 n1 c1, .slice a2 n2 c2] w fun e w' => e = .returned (.int .i64 (dotN f g (min n1 n2))) ∧ Below w.heap.size w w' := by
  have HA : Hid (IntsAt w a1 n1 w.heap.size f) := hA
  have HB : Hid (IntsAt w a2 n2 w.heap.size g) := hB
  clear hA hB
  obtain ⟨n, hn⟩ : ∃ n, n = min n1 n2 := ⟨_, rfl⟩
  have hmin : min (n1 : Int) (n2 : Int) = (n : Int) := by omega
  have hn1 : n ≤ n1 := by omega
  have hn2 : n ≤ n2 := by omega
  rw [← hn]
  clear hn
  go_enter Try.func56, Try.ntmps56
  go_wp2
  go_loopw [5, 12] (fun x i wr => ∃ k : Nat, i = .int .i64 (k : Int) ∧ k ≤ n ∧ x = .int .i64 (dotN f g k) ∧ Hid (Below w.heap.size w wr)) (fun _ i _ => n - (intOf i).toNat)
  case atStart => exact ⟨0, rfl, Nat.zero_le _, rfl, Below.refl _ _⟩
  case round =>
    obtain ⟨k, rfl, hk, rfl, HW⟩ := hrel
    by_cases hlt : k < n
    · have hlt' : (k : Int) < (n : Int) := by omega
      have hl1 : (k : Int) < (n1 : Int) := by omega
      have hl2 : (k : Int) < (n2 : Int) := by omega
      have hk0 : (0 : Int) ≤ (k : Int) := by omega
      obtain ⟨b, off, rfl, hb, hz⟩ := (HA.out.on HW.out) k (by omega)
      obtain ⟨b', off', rfl, hb', hz'⟩ := (HB.out.on HW.out) k (by omega)
      have HC : Hid (∀ w, Calls Try.prog 59 #[.int .i64 (f k), .int .i64 (g k)] w fun e w' => e = .returned (.int .i64 (scMul (f k) (g k))) ∧ w' = w) := fun w => (iScMul_any _ _ w).mono fun e w' h => ⟨h.1, h.2.symm⟩
      have HD : Hid (∀ w, Calls Try.prog 55 #[.int .i64 (dotN f g k), .int .i64 (scMul (f k) (g k))] w fun e w' => e = .returned (.int .i64 (dotN f g (k + 1))) ∧ w' = w) := fun w => (iScAdd_any _ _ w).mono fun e w' h => ⟨h.1, h.2.symm⟩
      generalize dotN f g k = d at HD
      generalize scMul (f k) (g k) = p at HC HD
      generalize f k = x at HC hz
      generalize g k = y at HC hz'
      clear hb hb' HA HB
      go_wp2
      refine wp_region_still_tail 11 mixesSc (by kernel_rfl) ?_
      simp only [List.take_succ_cons, List.take_zero, List.drop_succ_cons, List.drop_zero]
      repeat still_step
      still_call (HC.out _)
      repeat still_step
      still_call (HD.out _)
      repeat still_step
      refine wpStill_nil ?_
      go_wp2
      go_roundw
      case rel => exact ⟨k + 1, by go_num, hlt, rfl, HW.out.drew⟩
      case measure => simp [intOf]; omega
    · have hlt' : ¬ (k : Int) < (n : Int) := by omega
      have HK : Hid (k = n) := (show k = n by omega)
      go_wp2
      go_ret
      exact ⟨by rw [← HK.out]; rfl, HW.out⟩

end Go.Proofs.Ytbkfdafdchjakab

/-
  The walk of the specification's question whether a number lies between two.
  (-DROP-: what the seat lacks is left out.)
-/
namespace Go.Proofs.Ytbkfdafdchjakab
open Go.RowKit

set_option maxHeartbeats 400000 in
set_option maxRecDepth 100000 in
theorem sBetween_any (x a b : Int) (w : World) :
    Calls Try.prog 70 #[.int .i64 x, .int .i64 a, .int .i64 b] w fun e w' => e = .returned (.bool (decide (a ≤ x ∧ x ≤ b))) ∧ w = w' := by
  by_cases h0 : a ≤ x
  · by_cases h1 : x ≤ b
    · rw [decide_eq_true ⟨h0, h1⟩]
      go_enter Try.func70, Try.ntmps70
      go_wp2
      go_ret
      exact ⟨rfl, rfl⟩
    · rw [decide_eq_false (by omega)]
      go_enter Try.func70, Try.ntmps70
      go_wp2
      go_ret
      exact ⟨rfl, rfl⟩
  · rw [decide_eq_false (by omega)]
    go_enter Try.func70, Try.ntmps70
    go_wp2
    go_ret
    exact ⟨rfl, rfl⟩

end Go.Proofs.Ytbkfdafdchjakab

/-
  Bits as the document tells of them: no program in here.
-/
namespace Go.Proofs.Ytbkfdafdchjakab

/-- Whether a bit is set. -/
def bitB (b : Int) (i : Nat) : Bool := decide (b / 2 ^ i % 2 = 1)
/-- How many bits are set, of so many. -/
def bitsN (b : Int) : Nat → Int
  | 0 => 0
  | n + 1 => bitsN b n + b / 2 ^ n % 2
def bitsB (b : Int) : Int := if 0 ≤ b ∧ b ≤ 255 then bitsN b 8 else 0
theorem bitsN_in (b : Int) : ∀ n : Nat, 0 ≤ bitsN b n ∧ bitsN b n ≤ n
  | 0 => ⟨Int.le_refl _, Int.le_refl _⟩
  | n + 1 => by
    obtain ⟨h1, h2⟩ := bitsN_in b n
    show 0 ≤ bitsN b n + b / 2 ^ n % 2 ∧ bitsN b n + b / 2 ^ n % 2 ≤ ((n + 1 : Nat) : Int)
    omega

end Go.Proofs.Ytbkfdafdchjakab

/-
  Systems of products as the document tells of them: no program in here.
-/
namespace Go.Proofs.Ytbkfdafdchjakab

/-- What is told of bits. -/
def pubOf (b : Int) : List Int := [b, bitsB b]
/-- The bits at so many places. -/
def bitL (b : Int) (k : Nat) : List Int := (List.range k).map fun j => b / 2 ^ j % 2
theorem bitL_next (b : Int) (k : Nat) : bitL b (k + 1) = bitL b k ++ [b / 2 ^ k % 2] := by
  unfold bitL
  rw [List.range_succ, List.map_append]
  rfl
theorem bitL_length (b : Int) (k : Nat) : (bitL b k).length = k := by simp [bitL]
/-- The witness of bits. -/
def witOf (b : Int) : List Int := if 0 ≤ b ∧ b ≤ 255 then [1, b, bitsB b] ++ bitL b 8 else []
theorem witOf_length (b : Int) : (witOf b).length ≤ 11 := by
  unfold witOf
  by_cases h : 0 ≤ b ∧ b ≤ 255
  · rw [if_pos h]; simp [bitL_length]
  · rw [if_neg h]; simp

/-- So many numbers, all of them scalars. -/
def wide (l : List Int) (n : Int) : Bool := decide ((l.length : Int) = n) && l.all fun x => decide (0 ≤ x ∧ x ≤ 1008)

end Go.Proofs.Ytbkfdafdchjakab
