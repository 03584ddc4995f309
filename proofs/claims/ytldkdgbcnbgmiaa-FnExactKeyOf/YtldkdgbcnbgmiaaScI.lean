/-
  The walks of the program's scalars.
  (-DROP-: what the seat lacks is left out.)
-/
import Derived.Test.YtldkdgbcnbgmiaaProg
import Derived.Test.YtldkdgbcnbgmiaaScPure
import Derived.WalkLawsBesides
import Derived.WalkSpells
namespace Go.Proofs.Ytldkdgbcnbgmiaa
open Go.RowKit

set_option maxHeartbeats 400000 in
set_option maxRecDepth 100000 in
theorem iScOf_any (n : Int) (w : World) :
    Calls Try.prog 11 #[.int .i64 n] w fun e w' => e = .returned (.int .i64 (sca n)) ∧ w = w' := by
  have hb := tmod_bounds_sca n
  by_cases h : Int.tmod n 1009 < 0
  · have he := tmod_neg_sca h
    go_enter Try.func11, Try.ntmps11
    go_wp2
    go_ret
    exact ⟨rfl, rfl⟩
  · have he := tmod_nonneg_sca h
    go_enter Try.func11, Try.ntmps11
    go_wp2
    go_ret
    exact ⟨rfl, rfl⟩

end Go.Proofs.Ytldkdgbcnbgmiaa
