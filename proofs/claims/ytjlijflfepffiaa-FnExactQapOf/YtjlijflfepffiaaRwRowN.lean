/-
  The walk of a row of nothing, the specification's.
  (-DROP-: what the seat lacks is left out.)
-/
import Derived.Test.YtjlijflfepffiaaRwHelp2
import Derived.RegionTactic
import Derived.ChangeAlike
namespace Go.Proofs.Ytjlijflfepffiaa
open Go.RowKit

theorem freshN (w : World) (o : Obj) (n : Nat) (f : Nat → Int) : RowI ((((w.alloc o).alloc (.cells (ic f n) 3)).alloc (.cells (ic f n) 3)).alloc (.cells (ic f n) 3)) (w.heap.size + 1) n f ∧ RowI ((((w.alloc o).alloc (.cells (ic f n) 3)).alloc (.cells (ic f n) 3)).alloc (.cells (ic f n) 3)) (w.heap.size + 1 + 1) n f ∧ RowI ((((w.alloc o).alloc (.cells (ic f n) 3)).alloc (.cells (ic f n) 3)).alloc (.cells (ic f n) 3)) (w.heap.size + 1 + 1 + 1) n f ∧ Below w.heap.size w ((((w.alloc o).alloc (.cells (ic f n) 3)).alloc (.cells (ic f n) 3)).alloc (.cells (ic f n) 3)) :=
  ⟨((Blk.newAt (by simp)).alloc _).alloc _, (Blk.newAt (by simp)).alloc _, Blk.newAt (by simp), ((((Below.refl _ _).alloc (Nat.le_refl _) _).alloc (by simp) _).alloc (by simp; omega) _).alloc (by simp; omega) _⟩

set_option maxHeartbeats 1600000 in
set_option maxRecDepth 100000 in
theorem l13RowN_any (n : Nat) (hn : n ≤ 1000) (w : World) :
    Calls Try.prog 79 #[.int .i64 (n : Int)] w fun e w' => ∃ g0 g1 g2, e = .returned (.agg #[.slice (some ⟨g0, 0, none⟩) n n, .slice (some ⟨g1, 0, none⟩) n n, .slice (some ⟨g2, 0, none⟩) n n]) ∧ (w.heap.size ≤ g0 ∧ w.heap.size ≤ g1 ∧ w.heap.size ≤ g2 ∧ g0 ≠ g1 ∧ g0 ≠ g2 ∧ g1 ≠ g2 ∧ RowI w' g0 n (fun _ => 0) ∧ RowI w' g1 n (fun _ => 0) ∧ RowI w' g2 n (fun _ => 0)) ∧ Below w.heap.size w w' := by
  have hmk : ∀ W : World, (Instr.makeSlice 27 (.int .i64 (n : Int)) (.int .i64 (n : Int))).run Try.prog W = .ok (.slice (some ⟨W.heap.size, 0, none⟩) n n) (W.alloc (.cells (ic (fun _ => 0) n) 3)) := fun W => make_ints n n (Nat.le_refl _) (by omega) W
  go_enter Try.func79, Try.ntmps79
  go_wp2
  go_region
  all_goals go_wp2
  all_goals refine bodyPost_ret_by (result_blk rfl rfl ((((Blk.new _ _ _).alloc _).alloc _).alloc _) Try.underlying35 infoRw) rfl ⟨_, _, _, rfl, ⟨by omega, by omega, by omega, by omega, by omega, by omega, ?_, ?_, ?_⟩, ?_⟩
  all_goals first | exact (freshN w _ n (fun _ => 0)).1 | exact (freshN w _ n (fun _ => 0)).2.1 | exact (freshN w _ n (fun _ => 0)).2.2.1 | exact (freshN w _ n (fun _ => 0)).2.2.2 | exact (freshN w _ n (fun _ => 0)).2.2.2.drew

end Go.Proofs.Ytjlijflfepffiaa
