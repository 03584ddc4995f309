/-
  Texts of one's own, joined.
-/
import Derived.Test.YtbkfdafdchjakabPtT2
import Derived.Test.YtbkfdafdchjakabJoined8
import Derived.OpenShut
import Derived.Test.YtbkfdafdchjakabJoined3

/-
  The walks of the laws on the functions of points.
  (-DROP-: what the seat lacks is left out.)
-/
namespace Go.Proofs.Ytbkfdafdchjakab
open Go.RowKit Go.ChangeShapes Go.WideShapes

theorem infoLP : (Try.prog.info? 23).map (·.size) = some 3 := by kernel_rfl

set_option maxHeartbeats 800000 in
set_option maxRecDepth 100000 in
theorem toPoint_any (P : Pt) (w : World) :
    Calls Try.prog 32 #[pv P] w fun e w' => e = .returned (pv P) ∧ Below w.heap.size w w' := by
  go_enter Try.func32, Try.ntmps32
  go_wp2
  obtain ⟨W, hW, hb, hx, hr, hv⟩ := boxes2r w 23 32 32 #[.int .i64 P.1, .int .i64 P.2.1, .bool P.2.2] #[.int .i64 P.1, .int .i64 P.2.1, .bool P.2.2] #[.int .i64 P.1, .int .i64 P.2.1, .bool P.2.2]
  rw [hW]
  refine bodyPost_ret_by (result_blk rfl rfl hr Try.underlying32 infoP) rfl ⟨rfl, hb⟩

set_option maxHeartbeats 800000 in
set_option maxRecDepth 100000 in
theorem eqPoint_same (P : Pt) (w : World) :
    Calls Try.prog 40 #[pv P, pv P] w fun e w' => e = .returned (.bool true) ∧ Below w.heap.size w w' := by
  go_enter Try.func40, Try.ntmps40
  go_wp2
  go_ret
  exact ⟨rfl, ((Below.refl _ _).alloc (Nat.le_refl _) _).alloc (by simp) _⟩

end Go.Proofs.Ytbkfdafdchjakab

/-
  Two blocks of structs.
-/
namespace Go.Proofs.Ytbkfdafdchjakab
open Go.RowKit

theorem two_boxes (w : World) (t1 t2 : TypeId) (c1 c2 : Array Value) : ∃ W, (w.alloc (.cells c1 t1)).alloc (.cells c2 t2) = W ∧ Below w.heap.size w W ∧ Blk W w.heap.size t1 c1 ∧ Blk W (w.heap.size + 1) t2 c2 :=
  ⟨_, rfl, ((Below.refl _ _).alloc (Nat.le_refl _) _).alloc (by simp) _, (Blk.new w t1 c1).alloc _, Blk.newAt (by simp)⟩

end Go.Proofs.Ytbkfdafdchjakab
