/-
  The walks of ScDot, the program's and the specification's.
  (-DROP-: what the seat lacks is left out.)
-/
import Derived.Test.YtbkfdafdchjakaaScI
import Derived.Test.YtbkfdafdchjakaaScS
import Derived.Test.YtbkfdafdchjakaaScArg
import Derived.StillTail
import Derived.StillTailTactics
import Derived.Lib.MinMax

namespace Go.Proofs.Ytbkfdafdchjakaa
open Go.RowKit

set_option maxHeartbeats 800000 in
set_option maxRecDepth 100000 in
theorem iDot_any (a1 a2 : Option Addr) (n1 c1 n2 c2 : Nat) (hm1 : n1 ≤ 9223372036854775807) (f g : Nat → Int) (w : World)
    (hA : IntsAt w a1 n1 w.heap.size f) (hB : IntsAt w a2 n2 w.heap.size g) :
    Calls Try.prog 29 #[.slice a1 n1 c1, .slice a2 n2 c2] w fun e w' => e = .returned (.int .i64 (dotN f g (min n1 n2))) ∧ Below w.heap.size w w' := by
  have HA : Hid (IntsAt w a1 n1 w.heap.size f) := hA
  have HB : Hid (IntsAt w a2 n2 w.heap.size g) := hB
  clear hA hB
  obtain ⟨n, hn⟩ : ∃ n, n = min n1 n2 := ⟨_, rfl⟩
  have hmin : min (n1 : Int) (n2 : Int) = (n : Int) := by omega
  have hn1 : n ≤ n1 := by omega
  have hn2 : n ≤ n2 := by omega
  rw [← hn]
  clear hn
  go_enter Try.func29, Try.ntmps29
  go_wp2
  go_loopw [5, 12] (fun x i wr => ∃ k : Nat, i = .int .i64 (k : Int) ∧ k ≤ n ∧ x = .int .i64 (dotN f g k) ∧ Hid (Below w.heap.size w wr)) (fun _ i _ => n - (intOf i).toNat)
  case atStart => exact ⟨0, rfl, Nat.zero_le _, rfl, Below.refl _ _⟩
  case round =>
    obtain ⟨k, rfl, hk, rfl, HW⟩ := hrel
    by_cases hlt : k < n
    · have hlt' : (k : Int) < (n : Int) := by omega
      have hl1 : (k : Int) < (n1 : Int) := by omega
      have hl2 : (k : Int) < (n2 : Int) := by omega
      have hk0 : (0 : Int) ≤ (k : Int) := by omega
      obtain ⟨b, off, rfl, hb, hz⟩ := (HA.out.on HW.out) k (by omega)
      obtain ⟨b', off', rfl, hb', hz'⟩ := (HB.out.on HW.out) k (by omega)
      have HC : Hid (∀ w, Calls Try.prog 30 #[.int .i64 (f k), .int .i64 (g k)] w fun e w' => e = .returned (.int .i64 (scMul (f k) (g k))) ∧ w' = w) := fun w => (iScMul_any _ _ w).mono fun e w' h => ⟨h.1, h.2.symm⟩
      have HD : Hid (∀ w, Calls Try.prog 28 #[.int .i64 (dotN f g k), .int .i64 (scMul (f k) (g k))] w fun e w' => e = .returned (.int .i64 (dotN f g (k + 1))) ∧ w' = w) := fun w => (iScAdd_any _ _ w).mono fun e w' h => ⟨h.1, h.2.symm⟩
      generalize dotN f g k = d at HD
      generalize scMul (f k) (g k) = p at HC HD
      generalize f k = x at HC hz
      generalize g k = y at HC hz'
      clear hb hb' HA HB
      go_wp2
      refine wp_region_still_tail 11 mixesSc (by kernel_rfl) ?_
      simp only [List.take_succ_cons, List.take_zero, List.drop_succ_cons, List.drop_zero]
      repeat still_step
      still_call (HC.out _)
      repeat still_step
      still_call (HD.out _)
      repeat still_step
      refine wpStill_nil ?_
      go_wp2
      go_roundw
      case rel => exact ⟨k + 1, by go_num, hlt, rfl, HW.out.drew⟩
      case measure => simp [intOf]; omega
    · have hlt' : ¬ (k : Int) < (n : Int) := by omega
      have HK : Hid (k = n) := (show k = n by omega)
      go_wp2
      go_ret
      exact ⟨by rw [← HK.out]; rfl, HW.out⟩

set_option maxHeartbeats 800000 in
set_option maxRecDepth 100000 in
theorem sDot_any (a1 a2 : Option Addr) (n1 c1 n2 c2 : Nat) (hm1 : n1 ≤ 9223372036854775807) (f g : Nat → Int) (w : World)
    (hA : IntsAt w a1 n1 w.heap.size f) (hB : IntsAt w a2 n2 w.heap.size g) :
    Calls Try.prog 51 #[.slice a1 n1 c1, .slice a2 n2 c2] w fun e w' => e = .returned (.int .i64 (dotN f g (min n1 n2))) ∧ Below w.heap.size w w' := by
  have HA : Hid (IntsAt w a1 n1 w.heap.size f) := hA
  have HB : Hid (IntsAt w a2 n2 w.heap.size g) := hB
  clear hA hB
  obtain ⟨n, hn⟩ : ∃ n, n = min n1 n2 := ⟨_, rfl⟩
  have hn1 : n ≤ n1 := by omega
  have hn2 : n ≤ n2 := by omega
  have HN : Hid (n = min n1 n2) := hn
  rw [← hn]
  clear hn
  go_enter Try.func51, Try.ntmps51
  go_wp2
  go_loopw [5, 6] (fun x i wr => ∃ k : Nat, i = .int .i64 (k : Int) ∧ k ≤ n ∧ x = .int .i64 (dotN f g k) ∧ Hid (Below w.heap.size w wr)) (fun _ i _ => n - (intOf i).toNat)
  case atStart => exact ⟨0, rfl, Nat.zero_le _, rfl, Below.refl _ _⟩
  case round =>
    obtain ⟨k, rfl, hk, rfl, HW⟩ := hrel
    by_cases hlt : k < n
    · have hl1 : (k : Int) < (n1 : Int) := by omega
      have hl2 : (k : Int) < (n2 : Int) := by omega
      have hk0 : (0 : Int) ≤ (k : Int) := by omega
      obtain ⟨b, off, rfl, hb, hz⟩ := (HA.out.on HW.out) k (by omega)
      obtain ⟨b', off', rfl, hb', hz'⟩ := (HB.out.on HW.out) k (by omega)
      have HC : Hid (∀ w, Calls Try.prog 50 #[.int .i64 (f k), .int .i64 (g k)] w fun e w' => e = .returned (.int .i64 (scMul (f k) (g k))) ∧ w' = w) := fun w => (sScMul_any _ _ w).mono fun e w' h => ⟨h.1, h.2.symm⟩
      have HD : Hid (∀ w, Calls Try.prog 74 #[.int .i64 (dotN f g k), .int .i64 (scMul (f k) (g k))] w fun e w' => e = .returned (.int .i64 (dotN f g (k + 1))) ∧ w' = w) := fun w => (sScAdd_any _ _ w).mono fun e w' h => ⟨h.1, h.2.symm⟩
      generalize dotN f g k = d at HD
      generalize scMul (f k) (g k) = p at HC HD
      generalize f k = x at HC hz
      generalize g k = y at HC hz'
      clear hb hb' HA HB
      go_wp2
      refine wp_region_still_tail 11 mixesSc (by kernel_rfl) ?_
      simp only [List.take_succ_cons, List.take_zero, List.drop_succ_cons, List.drop_zero]
      repeat still_step
      still_call (HC.out _)
      repeat still_step
      still_call (HD.out _)
      repeat still_step
      refine wpStill_nil ?_
      go_wp2
      go_roundw
      case rel => exact ⟨k + 1, by go_num, hlt, rfl, HW.out.drew⟩
      case measure => simp [intOf]; omega
    · have HK : Hid (k = n) := (show k = n by omega)
      by_cases h1 : k < n1
      · have h1' : (k : Int) < (n1 : Int) := by omega
        have h2' : ¬ (k : Int) < (n2 : Int) := by have := HN.out; omega
        go_wp2
        go_ret
        exact ⟨by rw [← HK.out]; rfl, HW.out⟩
      · have h1' : ¬ (k : Int) < (n1 : Int) := by omega
        go_wp2
        go_ret
        exact ⟨by rw [← HK.out]; rfl, HW.out⟩

end Go.Proofs.Ytbkfdafdchjakaa
