/-
  The walk of the law on Unhex.
-/
import Derived.Test.YtpienefbgpgdkalUnhexI
namespace Go.Proofs.Ytpienefbgpgdkal
open Go.RowKit

set_option maxRecDepth 100000 in
theorem sUnhex_no (s : ByteArray) (hm : s.size ≤ 1048576) (h : ¬ (s.size ≤ 40000 ∧ s.size % 2 = 0)) (w : World) :
    Calls Try.prog 4 #[.string s] w fun e w' => e = .returned (ret2 none) ∧ w = w' := by
  by_cases h1 : s.size ≤ 40000
  · have h1' : ¬ (40000 : Int) < (s.size : Int) := by omega
    have h2 : ((s.size : Int) % 2 == 0) = false := by simp; omega
    go_enter Try.func4, Try.ntmps4
    go_wp2
    go_ret2
    exact ⟨rfl, rfl⟩
  · have h1' : (40000 : Int) < (s.size : Int) := by omega
    go_enter Try.func4, Try.ntmps4
    go_wp2
    go_ret2
    exact ⟨rfl, rfl⟩

set_option maxRecDepth 100000 in
theorem iUnhex_no (s : ByteArray) (hm : s.size ≤ 1048576) (h : ¬ (s.size ≤ 40000 ∧ s.size % 2 = 0)) (w : World) :
    Calls Try.prog 5 #[.string s] w fun e w' => e = .returned (ret2 none) ∧ w = w' := by
  by_cases h1 : s.size % 2 = 0
  · have h2 : ((s.size : Int) % 2 == 0) = true := by simp; omega
    have h1' : (40000 : Int) < (s.size : Int) := by omega
    go_enter Try.func5, Try.ntmps5
    go_wp2
    go_ret2
    exact ⟨rfl, rfl⟩
  · have h2 : ((s.size : Int) % 2 == 0) = false := by simp; omega
    go_enter Try.func5, Try.ntmps5
    go_wp2
    go_ret2
    exact ⟨rfl, rfl⟩

theorem ret2_form (o : Option (List UInt8)) : ∃ (t : ByteArray) (b : Bool), ret2 o = .tuple #[.string t, .bool b] := by
  cases o with
  | none => exact ⟨_, _, rfl⟩
  | some l => exact ⟨_, _, rfl⟩

set_option maxRecDepth 100000 in
theorem lawUnhex (s : ByteArray) (hs : s.size ≤ maxLen) (w : World) :
    Calls Try.prog 3 #[.string s] w fun e w' => e = .returned (.bool true) ∧ Below w.heap.size w w' := by
  unfold maxLen at hs
  by_cases hb : s.size ≤ 1048576
  · have hb' : ¬ (1048576 : Int) < (s.size : Int) := by omega
    by_cases h2 : s.size ≤ 40000 ∧ s.size % 2 = 0
    · have hi := fun w => iUnhex_ok s h2.1 h2.2 w
      have hS := fun w => sUnhex_ok s h2.1 h2.2 w
      obtain ⟨x, b, hf⟩ := ret2_form (unS s.data.toList)
      rw [hf] at hi hS
      clear hf
      have HI : Hid (∀ w : World, Calls Try.prog 5 #[.string s] w fun e w' => e = .returned (.tuple #[.string x, .bool b]) ∧ Below w.heap.size w w') := hi
      have HS : Hid (∀ w : World, Calls Try.prog 4 #[.string s] w fun e w' => e = .returned (.tuple #[.string x, .bool b]) ∧ Below w.heap.size w w') := hS
      clear hi hS h2
      go_enter Try.func3, Try.ntmps3
      go_wp2_with (first | (go_at_call 4; refine (HS.out _).mono ?_; rintro e w1 ⟨rfl, hb1⟩) | (go_at_call 5; refine (HI.out _).mono ?_; rintro e w2 ⟨rfl, hb2⟩))
      go_ret
      exact ⟨rfl, hb1.trans (hb2.mono hb1.size)⟩
    · have HI : Hid (∀ w : World, Calls Try.prog 5 #[.string s] w fun e w' => e = .returned (.tuple #[.string ⟨#[]⟩, .bool false]) ∧ w = w') := fun w => iUnhex_no s hb h2 w
      have HS : Hid (∀ w : World, Calls Try.prog 4 #[.string s] w fun e w' => e = .returned (.tuple #[.string ⟨#[]⟩, .bool false]) ∧ w = w') := fun w => sUnhex_no s hb h2 w
      clear h2
      go_enter Try.func3, Try.ntmps3
      go_wp2_with (first | (go_at_call 4; refine (HS.out _).mono ?_; rintro e w1 ⟨rfl, rfl⟩) | (go_at_call 5; refine (HI.out _).mono ?_; rintro e w2 ⟨rfl, rfl⟩))
      go_ret
      exact ⟨rfl, Below.refl _ _⟩
  · have hb' : (1048576 : Int) < (s.size : Int) := by omega
    go_enter Try.func3, Try.ntmps3
    go_wp2
    go_ret
    exact ⟨rfl, Below.refl _ _⟩

end Go.Proofs.Ytpienefbgpgdkal
