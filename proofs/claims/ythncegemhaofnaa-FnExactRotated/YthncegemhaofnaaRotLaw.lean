/-
  The walk of the law on Rotated.
-/
import Derived.Test.YthncegemhaofnaaRot
import Derived.OpenShut
namespace Go.Proofs.Ythncegemhaofnaa
open Go.RowKit Go.ChangeShapes Go.WideShapes

set_option maxRecDepth 100000 in
theorem lawRotated (s : ByteArray) (n : Int) (_hs : s.size ≤ maxLen) (hwf : (Lit.int .i64 n).wf = true) (w : World) :
    Calls Try.prog 3 #[.string s, .int .i64 n] w fun e w' => e = .returned (.bool true) ∧ Below w.heap.size w w' := by
  have hbd := bounds_i64 hwf
  by_cases hb : s.size ≤ 1048576
  · have hb' : ¬ (1048576 : Int) < (s.size : Int) := by omega
    have HI : Hid (∀ w : World, Calls Try.prog 6 #[.string s, .int .i64 n] w fun e w' => e = .returned (.string (rotT s n)) ∧ Below w.heap.size w w') := fun w => iRot_any s n hb (by omega) (by omega) w
    have HS : Hid (∀ w : World, Calls Try.prog 5 #[.string s, .int .i64 n] w fun e w' => e = .returned (.string (rotT s n)) ∧ Below w.heap.size w w') := fun w => sRot_any s n hb (by omega) (by omega) w
    generalize rotT s n = r at HI HS
    go_enter Try.func3, Try.ntmps3
    go_wp2_with (first | (go_at_call 5; refine (HS.out _).mono ?_; rintro e w1 ⟨rfl, hb1⟩) | (go_at_call 6; refine (HI.out _).mono ?_; rintro e w2 ⟨rfl, hb2⟩))
    go_ret
    exact ⟨rfl, hb1.trans (hb2.mono hb1.size)⟩
  · have hb' : (1048576 : Int) < (s.size : Int) := by omega
    go_enter Try.func3, Try.ntmps3
    go_wp2
    go_ret
    exact ⟨rfl, Below.refl _ _⟩

end Go.Proofs.Ythncegemhaofnaa
