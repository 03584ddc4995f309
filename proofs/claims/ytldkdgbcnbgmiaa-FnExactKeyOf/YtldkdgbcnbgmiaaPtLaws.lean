/-
  The walks of the laws on the functions of points.
  (-DROP-: what the seat lacks is left out.)
-/
import Derived.Test.YtldkdgbcnbgmiaaPtT2
import Derived.Test.YtldkdgbcnbgmiaaPtI
import Derived.OpenShut
namespace Go.Proofs.Ytldkdgbcnbgmiaa
open Go.RowKit Go.ChangeShapes Go.WideShapes

set_option maxHeartbeats 800000 in
set_option maxRecDepth 100000 in
theorem eqPoint_same (P : Pt) (w : World) :
    Calls Try.prog 6 #[pv P, pv P] w fun e w' => e = .returned (.bool true) ∧ Below w.heap.size w w' := by
  go_enter Try.func6, Try.ntmps6
  go_wp2
  go_ret
  exact ⟨rfl, ((Below.refl _ _).alloc (Nat.le_refl _) _).alloc (by simp) _⟩

end Go.Proofs.Ytldkdgbcnbgmiaa
