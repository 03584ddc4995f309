/-
  The walk of the law on KeccakPad.
-/
import Derived.Test.YthncegemhaofnaaPad
namespace Go.Proofs.Ythncegemhaofnaa
open Go.RowKit

set_option maxRecDepth 100000 in
theorem lawPad (s : ByteArray) (_hs : s.size ≤ maxLen) (w : World) :
    Calls Try.prog 4 #[.string s] w fun e w' => e = .returned (.bool true) ∧ Below w.heap.size w w' := by
  by_cases hb : s.size ≤ 1048576
  · have hb' : ¬ (1048576 : Int) < (s.size : Int) := by omega
    have HI : Hid (∀ w : World, Calls Try.prog 8 #[.string s] w fun e w' => e = .returned (.string (padT s)) ∧ Below w.heap.size w w') := fun w => iPad_any s (by omega) w
    have HS : Hid (∀ w : World, Calls Try.prog 7 #[.string s] w fun e w' => e = .returned (.string (padT s)) ∧ Below w.heap.size w w') := fun w => sPad_any s (by omega) w
    generalize padT s = r at HI HS
    go_enter Try.func4, Try.ntmps4
    go_wp2_with (first | (go_at_call 7; refine (HS.out _).mono ?_; rintro e w1 ⟨rfl, hb1⟩) | (go_at_call 8; refine (HI.out _).mono ?_; rintro e w2 ⟨rfl, hb2⟩))
    go_ret
    exact ⟨rfl, hb1.trans (hb2.mono hb1.size)⟩
  · have hb' : (1048576 : Int) < (s.size : Int) := by omega
    go_enter Try.func4, Try.ntmps4
    go_wp2
    go_ret
    exact ⟨rfl, Below.refl _ _⟩

end Go.Proofs.Ythncegemhaofnaa
