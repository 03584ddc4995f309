/-
  The walks of ShortText on both sides, and of the law on it.
-/
import Derived.Test.YtpienefbgpgdkakVar
namespace Go.Proofs.Ytpienefbgpgdkak
open Go.RowKit

theorem sizeVar (n : Nat) : (⟨(varB n).toArray⟩ : ByteArray).size = (varB n).length := by simp [ByteArray.size]

theorem joins (n : Nat) (s : ByteArray) (hn : n ≤ 20000) (hs : s.size ≤ 20000) (w : World) :
    (Op.stringOp .add ⟨(varB n).toArray⟩ s).run Try.prog w = .ok (.string (⟨(varB n).toArray⟩ ++ s)) w :=
  run_string_add_sum (P := Try.prog) w _ _ (by rw [sizeVar]; have := varB_len n; omega)

set_option maxRecDepth 100000 in
theorem sShort_ok (s : ByteArray) (hs : s.size ≤ 20000) (w : World) :
    Calls Try.prog 12 #[.string s] w fun e w' => e = .returned (.tuple #[.string (⟨(varB s.size).toArray⟩ ++ s), .bool true]) ∧ Below w.heap.size w w' := by
  have h1 : ¬ (20000 : Int) < (s.size : Int) := by omega
  have hj := joins s.size s hs hs
  go_enter Try.func12, Try.ntmps12
  go_wp2_with (go_at_call 19; refine (var_any s.size (by omega) _).mono ?_; rintro e w1 ⟨rfl, hb⟩)
  go_ret2
  exact ⟨rfl, hb⟩

set_option maxRecDepth 100000 in
theorem iShort_ok (s : ByteArray) (hs : s.size ≤ 20000) (w : World) :
    Calls Try.prog 13 #[.string s] w fun e w' => e = .returned (.tuple #[.string (⟨(varB s.size).toArray⟩ ++ s), .bool true]) ∧ Below w.heap.size w w' := by
  have h1 : ¬ (20000 : Int) < (s.size : Int) := by omega
  have hj := joins s.size s hs hs
  go_enter Try.func13, Try.ntmps13
  go_wp2_with (go_at_call 9; refine (iVarText_ok s.size (by omega) _).mono ?_; rintro e w1 ⟨rfl, hb⟩)
  go_ret2
  exact ⟨rfl, hb⟩

set_option maxRecDepth 100000 in
theorem sShort_no (s : ByteArray) (hs : 20000 < s.size) (hm : s.size ≤ 1048576) (w : World) :
    Calls Try.prog 12 #[.string s] w fun e w' => e = .returned (.tuple #[.string ⟨#[]⟩, .bool false]) ∧ w = w' := by
  have h1 : (20000 : Int) < (s.size : Int) := by omega
  go_enter Try.func12, Try.ntmps12
  go_wp2
  go_ret2
  exact ⟨rfl, rfl⟩

set_option maxRecDepth 100000 in
theorem iShort_no (s : ByteArray) (hs : 20000 < s.size) (hm : s.size ≤ 1048576) (w : World) :
    Calls Try.prog 13 #[.string s] w fun e w' => e = .returned (.tuple #[.string ⟨#[]⟩, .bool false]) ∧ w = w' := by
  have h1 : (20000 : Int) < (s.size : Int) := by omega
  go_enter Try.func13, Try.ntmps13
  go_wp2
  go_ret2
  exact ⟨rfl, rfl⟩

set_option maxRecDepth 100000 in
theorem lawShortText (s : ByteArray) (hs : s.size ≤ maxLen) (w : World) :
    Calls Try.prog 5 #[.string s] w fun e w' => e = .returned (.bool true) ∧ Below w.heap.size w w' := by
  unfold maxLen at hs
  by_cases hb : s.size ≤ 1048576
  · have hb' : ¬ (1048576 : Int) < (s.size : Int) := by omega
    by_cases h2 : s.size ≤ 20000
    · go_enter Try.func5, Try.ntmps5
      go_wp2_with (first | (go_at_call 12; refine (sShort_ok s h2 _).mono ?_; rintro e w1 ⟨rfl, hb1⟩) | (go_at_call 13; refine (iShort_ok s h2 _).mono ?_; rintro e w2 ⟨rfl, hb2⟩))
      go_ret
      exact ⟨rfl, hb1.trans (hb2.mono hb1.size)⟩
    · go_enter Try.func5, Try.ntmps5
      go_wp2_with (first | (go_at_call 12; refine (sShort_no s (by omega) hb _).mono ?_; rintro e w1 ⟨rfl, rfl⟩) | (go_at_call 13; refine (iShort_no s (by omega) hb _).mono ?_; rintro e w2 ⟨rfl, rfl⟩))
      go_ret
      exact ⟨rfl, Below.refl _ _⟩
  · have hb' : (1048576 : Int) < (s.size : Int) := by omega
    go_enter Try.func5, Try.ntmps5
    go_wp2
    go_ret
    exact ⟨rfl, Below.refl _ _⟩

end Go.Proofs.Ytpienefbgpgdkak
