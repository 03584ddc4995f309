/-
  The walks of the places of words.
-/
import Derived.Test.YtlaoikpbgbckjaaDoorJoined5
import Derived.Test.YtlaoikpbgbckjaaDoorWord
namespace Go.Proofs.YtlaoikpbgbckjaaDoor
open Go.RowKit

/-- A place as cells. -/
def pl (x y : Nat) : Array Value := #[.int .i64 (x : Int), .int .i64 (y : Int)]

set_option maxRecDepth 100000 in
theorem index_any (x y : Nat) (hx : x < 5) (hy : y < 5) (w : World) :
    Calls Tryd.prog 86 #[.agg (pl x y)] w fun e w' => e = .returned (.int .i64 ((x + 5 * y : Nat) : Int)) ∧ w' = w.alloc (.cells (pl x y) 114) := by
  have HE : Hid ((x : Int) + 5 * (y : Int) = ((x + 5 * y : Nat) : Int)) := (show (x : Int) + 5 * (y : Int) = ((x + 5 * y : Nat) : Int) by omega)
  unfold pl
  go_enter Tryd.func86, Tryd.ntmps86
  go_wp2
  go_ret
  exact ⟨by rw [← HE.out]; rfl, rfl⟩

theorem index_of (x y i : Nat) (hx : x < 5) (hy : y < 5) (hi : x + 5 * y = i) (w : World) :
    Calls Tryd.prog 86 #[.agg #[.int .i64 (x : Int), .int .i64 (y : Int)]] w fun e w' => e = .returned (.int .i64 (i : Int)) ∧ w' = w.alloc (.cells #[.int .i64 (x : Int), .int .i64 (y : Int)] 114) := by
  subst hi; exact index_any x y hx hy w
theorem infoPl : (Tryd.prog.info? 114).map (·.size) = some 2 := by kernel_rfl

theorem result_cells {P : Program} {fn : Func} {p : Tmp} {ty t : TypeId} {d : TypeDesc} (h : fn.results = #[.cell p ty]) {tmps : Array Value} {w : World} {g : Nat} {cs : Array Value} (hp : tmps.getD p undef = .pointer (some ⟨g, 0, none⟩))
    (hA : w.heap[g]? = some (.cells cs t (0, 0))) (hu : P.underlying ty = some d) (hd : (match d with | .struct _ | .array _ _ => true | _ => false) = true) (hi : (P.info? ty).map (·.size) = some cs.size) : (results fn tmps).run P w = .ok (.agg cs) w := by
  have hl := run_loadVar_row w g t ty cs (0, 0) _ hA hu hd hi
  have hp' : tmps[p]?.getD undef = .pointer (some ⟨g, 0, none⟩) := by simpa using hp
  simp [results, h, hp', asAddr, hl]

set_option maxRecDepth 100000 in
theorem moved_any (x y : Nat) (hx : x < 5) (hy : y < 5) (w : World) :
    Calls Tryd.prog 85 #[.agg (pl x y)] w fun e w' => e = .returned (.agg (pl y ((2 * x + 3 * y) % 5))) ∧ w' = (w.alloc (.cells (pl x y) 114)).alloc (.cells (pl y ((2 * x + 3 * y) % 5)) 114) := by
  obtain ⟨z, hz⟩ : ∃ z, z = (2 * x + 3 * y) % 5 := ⟨_, rfl⟩
  have h1 : (2 * (x : Int) + 3 * (y : Int)) % 5 = (z : Int) := by omega
  have h2 : Int.tmod (2 * (x : Int) + 3 * (y : Int)) 5 = (z : Int) := by rw [Int.tmod_eq_emod_of_nonneg (by omega)]; exact h1
  rw [← hz]
  clear hz
  unfold pl
  go_enter Tryd.func85, Tryd.ntmps85
  go_wp2
  have hA : ((w.alloc (.cells #[.int .i64 (x : Int), .int .i64 (y : Int)] 114)).alloc (.cells #[.int .i64 (y : Int), .int .i64 (z : Int)] 114)).heap[w.heap.size + 1]? = some (.cells #[.int .i64 (y : Int), .int .i64 (z : Int)] 114 (0, 0)) := by
    have := heap_alloc_last (w.alloc (.cells #[.int .i64 (x : Int), .int .i64 (y : Int)] 114)) (.cells #[.int .i64 (y : Int), .int .i64 (z : Int)] 114)
    rwa [size_alloc] at this
  refine bodyPost_ret_by (result_cells rfl rfl hA Tryd.underlying114 rfl infoPl) rfl ⟨rfl, rfl⟩

end Go.Proofs.YtlaoikpbgbckjaaDoor
