/-
  Texts of one's own, joined.
-/
import Derived.Test.YtkmelamfohfdkabDoorProg
import Derived.Test.YtkmelamfohfdkabDoorJoined14
import Derived.WalkLawsBesides
import Derived.WalkSpells
import Derived.Test.YtkmelamfohfdkabDoorJoined20
import Derived.Test.YtkmelamfohfdkabDoorJoined16
import Derived.Test.YtkmelamfohfdkabDoorJoined3
import Derived.Test.YtkmelamfohfdkabDoorJoined15
import Derived.Test.YtkmelamfohfdkabDoorJoined17

/-
  The walks of the specification's scalars.
  (-DROP-: what the seat lacks is left out.)
-/
namespace Go.Proofs.YtkmelamfohfdkabDoor
open Go.RowKit

set_option maxHeartbeats 400000 in
set_option maxRecDepth 100000 in
theorem sScOf_any (n : Int) (w : World) :
    Calls Tryd.prog 17 #[.int .i64 n] w fun e w' => e = .returned (.int .i64 (sca n)) ∧ w = w' := by
  have hb := tmod_bounds_sca n
  by_cases h : Int.tmod n 1009 < 0
  · have he := tmod_neg_sca h
    go_enter Tryd.func17, Tryd.ntmps17
    go_wp2
    go_ret
    exact ⟨rfl, rfl⟩
  · have he := tmod_nonneg_sca h
    go_enter Tryd.func17, Tryd.ntmps17
    go_wp2
    go_ret
    exact ⟨rfl, rfl⟩

set_option maxHeartbeats 400000 in
set_option maxRecDepth 100000 in
theorem sScAdd_any (a b : Int) (w : World) :
    Calls Tryd.prog 10 #[.int .i64 a, .int .i64 b] w fun e w' => e = .returned (.int .i64 (scAdd a b)) ∧ w = w' := by
  have ha0 := sca_nonneg a
  have ha1 := sca_lt a
  have hb0 := sca_nonneg b
  have hb1 := sca_lt b
  have HE : Hid (scAdd a b = sca (sca a + sca b)) := rfl
  go_enter Tryd.func10, Tryd.ntmps10
  go_wp2_with (go_at_call 17; refine (sScOf_any _ _).mono ?_; rintro e w1 ⟨rfl, rfl⟩)
  go_ret
  exact ⟨by rw [HE.out]; rfl, rfl⟩

end Go.Proofs.YtkmelamfohfdkabDoor

/-
  The walk of the specification's KeyOf.
  (-DROP-: what the seat lacks is left out.)
-/
namespace Go.Proofs.YtkmelamfohfdkabDoor
open Go.RowKit

end Go.Proofs.YtkmelamfohfdkabDoor

/-
  The walks of the program's numbers two by two.
  (-DROP-: what the seat lacks is left out.)
-/
namespace Go.Proofs.YtkmelamfohfdkabDoor
open Go.RowKit

/-- A number of two parts, as a value. -/
abbrev tv (x : Int × Int) : Value := .agg #[.int .i64 x.1, .int .i64 x.2]
theorem ones2 (a b : Int) : (#[Value.int .i64 a, Value.int .i64 b]).all (·.oneCell') = true := by simp [Value.oneCell']
theorem fp_sub_fp (a b : Int) : fp (fp a - fp b) = fp (a - b) := by unfold fp; simp

end Go.Proofs.YtkmelamfohfdkabDoor

/-
  The walks of the specification's numbers two by two.
  (-DROP-: what the seat lacks is left out.)
-/
namespace Go.Proofs.YtkmelamfohfdkabDoor
open Go.RowKit

end Go.Proofs.YtkmelamfohfdkabDoor

/-
  The walk of the specification's power two by two.
-/
namespace Go.Proofs.YtkmelamfohfdkabDoor
open Go.RowKit

end Go.Proofs.YtkmelamfohfdkabDoor
