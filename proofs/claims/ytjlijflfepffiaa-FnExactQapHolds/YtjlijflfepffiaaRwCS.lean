/-
  The walks of the rows of the system of bits, the program's and the specification's.
  (-DROP-: what the seat lacks is left out.)
-/
import Derived.Test.YtjlijflfepffiaaRwHelp2
import Derived.Test.YtjlijflfepffiaaJoined8
import Derived.RegionTactic
import Derived.ChangeAlike

namespace Go.Proofs.Ytjlijflfepffiaa
open Go.RowKit

/-- 1 at one place. -/
def hotF (k : Nat) : Nat → Int := fun j => if j = k then 1 else 0
/-- A number to a bit's place at each bit. -/
def powF (b : Int) (k : Nat) : Nat → Int := fun j => if 3 ≤ j ∧ j < 3 + k then b ^ (j - 3) else 0
theorem powF_next (b : Int) (k : Nat) : (fun i => if i = 3 + k then b ^ k else powF b k i) = powF b (k + 1) := by
  funext i
  unfold powF
  by_cases h : i = 3 + k
  · subst h
    rw [if_pos rfl, if_pos (by omega), show 3 + k - 3 = k by omega]
  · rw [if_neg h]
    by_cases h2 : 3 ≤ i ∧ i < 3 + k
    · rw [if_pos h2, if_pos (by omega)]
    · rw [if_neg h2, if_neg (by omega)]

/-- Three lists of eleven numbers in blocks of their own. -/
def Three (w0 w : World) (g0 g1 g2 : Nat) (f0 f1 f2 : Nat → Int) : Prop :=
  w0.heap.size ≤ g0 ∧ w0.heap.size ≤ g1 ∧ w0.heap.size ≤ g2 ∧ g0 ≠ g1 ∧ g0 ≠ g2 ∧ g1 ≠ g2 ∧ RowI w g0 11 f0 ∧ RowI w g1 11 f1 ∧ RowI w g2 11 f2
def row11 (g0 g1 g2 : Nat) : Value := .agg #[.slice (some ⟨g0, 0, none⟩) 11 11, .slice (some ⟨g1, 0, none⟩) 11 11, .slice (some ⟨g2, 0, none⟩) 11 11]

theorem fresh3 (w : World) (o : Obj) (f : Nat → Int) : RowI ((((w.alloc o).alloc (.cells (ic f 11) 3)).alloc (.cells (ic f 11) 3)).alloc (.cells (ic f 11) 3)) (w.heap.size + 1) 11 f ∧ RowI ((((w.alloc o).alloc (.cells (ic f 11) 3)).alloc (.cells (ic f 11) 3)).alloc (.cells (ic f 11) 3)) (w.heap.size + 1 + 1) 11 f ∧ RowI ((((w.alloc o).alloc (.cells (ic f 11) 3)).alloc (.cells (ic f 11) 3)).alloc (.cells (ic f 11) 3)) (w.heap.size + 1 + 1 + 1) 11 f ∧ Below w.heap.size w ((((w.alloc o).alloc (.cells (ic f 11) 3)).alloc (.cells (ic f 11) 3)).alloc (.cells (ic f 11) 3)) :=
  ⟨((Blk.newAt (by simp)).alloc _).alloc _, (Blk.newAt (by simp)).alloc _, Blk.newAt (by simp), ((((Below.refl _ _).alloc (Nat.le_refl _) _).alloc (by simp) _).alloc (by simp; omega) _).alloc (by simp; omega) _⟩

set_option maxHeartbeats 1600000 in
set_option maxRecDepth 100000 in
theorem l13Row_any (w : World) :
    Calls Try.prog 79 #[.int .i64 11] w fun e w' => ∃ g0 g1 g2, e = .returned (row11 g0 g1 g2) ∧ Three w w' g0 g1 g2 (fun _ => 0) (fun _ => 0) (fun _ => 0) ∧ Below w.heap.size w w' := by
  have hmk : ∀ W : World, (Instr.makeSlice 27 (.int .i64 11) (.int .i64 11)).run Try.prog W = .ok (.slice (some ⟨W.heap.size, 0, none⟩) 11 11) (W.alloc (.cells (ic (fun _ => 0) 11) 3)) := fun W => make_ints 11 11 (Nat.le_refl _) (by omega) W
  go_enter Try.func79, Try.ntmps79
  go_wp2
  go_region
  all_goals go_wp2
  all_goals refine bodyPost_ret_by (result_blk rfl rfl ((((Blk.new _ _ _).alloc _).alloc _).alloc _) Try.underlying35 infoRw) rfl ⟨_, _, _, rfl, ⟨by omega, by omega, by omega, by omega, by omega, by omega, ?_, ?_, ?_⟩, ?_⟩
  all_goals first | exact (fresh3 w _ (fun _ => 0)).1 | exact (fresh3 w _ (fun _ => 0)).2.1 | exact (fresh3 w _ (fun _ => 0)).2.2.1 | exact (fresh3 w _ (fun _ => 0)).2.2.2 | exact (fresh3 w _ (fun _ => 0)).2.2.2.drew

end Go.Proofs.Ytjlijflfepffiaa
