/-
  The walk of the law on ReadVar.
-/
import Derived.Test.YtpienefbgpgdkakReadI
import Derived.Test.YtpienefbgpgdkakReadS
namespace Go.Proofs.Ytpienefbgpgdkak
open Go.RowKit

theorem iReadVar_any (s : ByteArray) (a : Int) (hs : s.size ≤ 1048576) (w : World) :
    Calls Try.prog 11 #[.string s, .int .i64 a] w fun e w' => e = .returned (ret3 (if 0 ≤ a ∧ a ≤ s.size then rdAt s a.toNat else none)) ∧ Below w.heap.size w w' := by
  by_cases h : 0 ≤ a ∧ a ≤ s.size
  · obtain ⟨k, rfl⟩ : ∃ k : Nat, a = k := ⟨a.toNat, by omega⟩
    rw [if_pos h]
    exact (iReadVar_ok s k hs (by omega) w).mono fun e w' ⟨h1, h2⟩ => ⟨h1, by subst h2; exact Below.refl _ _⟩
  · rw [if_neg h]
    exact (iReadVar_no s a (by unfold maxLen; omega) (by omega) w).mono fun e w' ⟨h1, h2⟩ => ⟨h1, by subst h2; exact Below.refl _ _⟩

theorem sReadVar_any (s : ByteArray) (a : Int) (hs : s.size ≤ 1048576) (w : World) :
    Calls Try.prog 10 #[.string s, .int .i64 a] w fun e w' => e = .returned (ret3 (if 0 ≤ a ∧ a ≤ s.size then rdAt s a.toNat else none)) ∧ Below w.heap.size w w' := by
  by_cases h : 0 ≤ a ∧ a ≤ s.size
  · obtain ⟨k, rfl⟩ : ∃ k : Nat, a = k := ⟨a.toNat, by omega⟩
    rw [if_pos h]
    exact (sReadVar_ok s k hs (by omega) w)
  · rw [if_neg h]
    exact (sReadVar_no s a (by unfold maxLen; omega) (by omega) w).mono fun e w' ⟨h1, h2⟩ => ⟨h1, by subst h2; exact Below.refl _ _⟩

theorem ret3_form (o : Option (Nat × Nat)) : ∃ (x y : Int) (b : Bool), ret3 o = .tuple #[.int .i64 x, .int .i64 y, .bool b] := by
  cases o with
  | none => exact ⟨_, _, _, rfl⟩
  | some p => exact ⟨_, _, _, rfl⟩

set_option maxHeartbeats 800000 in
set_option maxRecDepth 100000 in
theorem lawReadVar (s : ByteArray) (a : Int) (hs : s.size ≤ maxLen) (_hwf : (Lit.int .i64 a).wf = true) (w : World) :
    Calls Try.prog 4 #[.string s, .int .i64 a] w fun e w' => e = .returned (.bool true) ∧ Below w.heap.size w w' := by
  unfold maxLen at hs
  by_cases hb : s.size ≤ 1048576
  · have hb' : ¬ (1048576 : Int) < (s.size : Int) := by omega
    have hi := fun w => iReadVar_any s a hb w
    have hS := fun w => sReadVar_any s a hb w
    obtain ⟨x, y, b, hf⟩ := ret3_form (if 0 ≤ a ∧ a ≤ s.size then rdAt s a.toNat else none)
    rw [hf] at hi hS
    clear hf
    have HI : Hid (∀ w : World, Calls Try.prog 11 #[.string s, .int .i64 a] w fun e w' => e = .returned (.tuple #[.int .i64 x, .int .i64 y, .bool b]) ∧ Below w.heap.size w w') := hi
    have HS : Hid (∀ w : World, Calls Try.prog 10 #[.string s, .int .i64 a] w fun e w' => e = .returned (.tuple #[.int .i64 x, .int .i64 y, .bool b]) ∧ Below w.heap.size w w') := hS
    clear hi hS
    go_enter Try.func4, Try.ntmps4
    go_wp2_with (first | (go_at_call 10; refine (HS.out _).mono ?_; rintro e w1 ⟨rfl, hb1⟩) | (go_at_call 11; refine (HI.out _).mono ?_; rintro e w2 ⟨rfl, hb2⟩))
    go_ret
    exact ⟨rfl, hb1.trans (hb2.mono hb1.size)⟩
  · have hb' : (1048576 : Int) < (s.size : Int) := by omega
    go_enter Try.func4, Try.ntmps4
    go_wp2
    go_ret
    exact ⟨rfl, Below.refl _ _⟩

end Go.Proofs.Ytpienefbgpgdkak
