/-
  Texts of one's own, joined.
-/
import Derived.Test.YtjlijflfepffiaaRwHelp2
import Derived.RegionTactic
import Derived.ChangeAlike
import Derived.Test.YtjlijflfepffiaaJoined1

/-
  The walk of a row of nothing, the specification's.
  (-DROP-: what the seat lacks is left out.)
-/
namespace Go.Proofs.Ytjlijflfepffiaa
open Go.RowKit

theorem freshN (w : World) (o : Obj) (n : Nat) (f : Nat → Int) : RowI ((((w.alloc o).alloc (.cells (ic f n) 3)).alloc (.cells (ic f n) 3)).alloc (.cells (ic f n) 3)) (w.heap.size + 1) n f ∧ RowI ((((w.alloc o).alloc (.cells (ic f n) 3)).alloc (.cells (ic f n) 3)).alloc (.cells (ic f n) 3)) (w.heap.size + 1 + 1) n f ∧ RowI ((((w.alloc o).alloc (.cells (ic f n) 3)).alloc (.cells (ic f n) 3)).alloc (.cells (ic f n) 3)) (w.heap.size + 1 + 1 + 1) n f ∧ Below w.heap.size w ((((w.alloc o).alloc (.cells (ic f n) 3)).alloc (.cells (ic f n) 3)).alloc (.cells (ic f n) 3)) :=
  ⟨((Blk.newAt (by simp)).alloc _).alloc _, (Blk.newAt (by simp)).alloc _, Blk.newAt (by simp), ((((Below.refl _ _).alloc (Nat.le_refl _) _).alloc (by simp) _).alloc (by simp; omega) _).alloc (by simp; omega) _⟩

set_option maxHeartbeats 1600000 in
set_option maxRecDepth 100000 in
theorem l13RowN_any (n : Nat) (hn : n ≤ 1000) (w : World) :
    Calls Try.prog 79 #[.int .i64 (n : Int)] w fun e w' => ∃ g0 g1 g2, e = .returned (.agg #[.slice (some ⟨g0, 0, none⟩) n n, .slice (some ⟨g1, 0, none⟩) n n, .slice (some ⟨g2, 0, none⟩) n n]) ∧ (w.heap.size ≤ g0 ∧ w.heap.size ≤ g1 ∧ w.heap.size ≤ g2 ∧ g0 ≠ g1 ∧ g0 ≠ g2 ∧ g1 ≠ g2 ∧ RowI w' g0 n (fun _ => 0) ∧ RowI w' g1 n (fun _ => 0) ∧ RowI w' g2 n (fun _ => 0)) ∧ Below w.heap.size w w' := by
  have hmk : ∀ W : World, (Instr.makeSlice 27 (.int .i64 (n : Int)) (.int .i64 (n : Int))).run Try.prog W = .ok (.slice (some ⟨W.heap.size, 0, none⟩) n n) (W.alloc (.cells (ic (fun _ => 0) n) 3)) := fun W => make_ints n n (Nat.le_refl _) (by omega) W
  go_enter Try.func79, Try.ntmps79
  go_wp2
  go_region
  all_goals go_wp2
  all_goals refine bodyPost_ret_by (result_blk rfl rfl ((((Blk.new _ _ _).alloc _).alloc _).alloc _) Try.underlying35 infoRw) rfl ⟨_, _, _, rfl, ⟨by omega, by omega, by omega, by omega, by omega, by omega, ?_, ?_, ?_⟩, ?_⟩
  all_goals first | exact (freshN w _ n (fun _ => 0)).1 | exact (freshN w _ n (fun _ => 0)).2.1 | exact (freshN w _ n (fun _ => 0)).2.2.1 | exact (freshN w _ n (fun _ => 0)).2.2.2 | exact (freshN w _ n (fun _ => 0)).2.2.2.drew

end Go.Proofs.Ytjlijflfepffiaa

/-
  Bits as the document tells of them: no program in here.
-/
namespace Go.Proofs.Ytjlijflfepffiaa

/-- Whether a bit is set. -/
def bitB (b : Int) (i : Nat) : Bool := decide (b / 2 ^ i % 2 = 1)
/-- How many bits are set, of so many. -/
def bitsN (b : Int) : Nat → Int
  | 0 => 0
  | n + 1 => bitsN b n + b / 2 ^ n % 2
def bitsB (b : Int) : Int := if 0 ≤ b ∧ b ≤ 255 then bitsN b 8 else 0
theorem bitsN_in (b : Int) : ∀ n : Nat, 0 ≤ bitsN b n ∧ bitsN b n ≤ n
  | 0 => ⟨Int.le_refl _, Int.le_refl _⟩
  | n + 1 => by
    obtain ⟨h1, h2⟩ := bitsN_in b n
    show 0 ≤ bitsN b n + b / 2 ^ n % 2 ∧ bitsN b n + b / 2 ^ n % 2 ≤ ((n + 1 : Nat) : Int)
    omega

end Go.Proofs.Ytjlijflfepffiaa

/-
  Systems of products as the document tells of them: no program in here.
-/
namespace Go.Proofs.Ytjlijflfepffiaa

/-- What is told of bits. -/
def pubOf (b : Int) : List Int := [b, bitsB b]
/-- The bits at so many places. -/
def bitL (b : Int) (k : Nat) : List Int := (List.range k).map fun j => b / 2 ^ j % 2
theorem bitL_next (b : Int) (k : Nat) : bitL b (k + 1) = bitL b k ++ [b / 2 ^ k % 2] := by
  unfold bitL
  rw [List.range_succ, List.map_append]
  rfl
theorem bitL_length (b : Int) (k : Nat) : (bitL b k).length = k := by simp [bitL]
/-- The witness of bits. -/
def witOf (b : Int) : List Int := if 0 ≤ b ∧ b ≤ 255 then [1, b, bitsB b] ++ bitL b 8 else []
theorem witOf_length (b : Int) : (witOf b).length ≤ 11 := by
  unfold witOf
  by_cases h : 0 ≤ b ∧ b ≤ 255
  · rw [if_pos h]; simp [bitL_length]
  · rw [if_neg h]; simp

/-- So many numbers, all of them scalars. -/
def wide (l : List Int) (n : Int) : Bool := decide ((l.length : Int) = n) && l.all fun x => decide (0 ≤ x ∧ x ≤ 1008)

end Go.Proofs.Ytjlijflfepffiaa
