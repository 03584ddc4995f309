/-
  Texts of one's own, joined.
-/
import Derived.Test.YtkmelamfohfdkabDoorJoined11
import Derived.Test.YtkmelamfohfdkabDoorJoined12

/-
  The walks of the places of words.
-/
namespace Go.Proofs.YtkmelamfohfdkabDoor
open Go.RowKit

/-- A place as cells. -/
def pl (x y : Nat) : Array Value := #[.int .i64 (x : Int), .int .i64 (y : Int)]

set_option maxRecDepth 100000 in
theorem index_any (x y : Nat) (hx : x < 5) (hy : y < 5) (w : World) :
    Calls Tryd.prog 78 #[.agg (pl x y)] w fun e w' => e = .returned (.int .i64 ((x + 5 * y : Nat) : Int)) ∧ w' = w.alloc (.cells (pl x y) 89) := by
  have HE : Hid ((x : Int) + 5 * (y : Int) = ((x + 5 * y : Nat) : Int)) := (show (x : Int) + 5 * (y : Int) = ((x + 5 * y : Nat) : Int) by omega)
  unfold pl
  go_enter Tryd.func78, Tryd.ntmps78
  go_wp2
  go_ret
  exact ⟨by rw [← HE.out]; rfl, rfl⟩

theorem index_of (x y i : Nat) (hx : x < 5) (hy : y < 5) (hi : x + 5 * y = i) (w : World) :
    Calls Tryd.prog 78 #[.agg #[.int .i64 (x : Int), .int .i64 (y : Int)]] w fun e w' => e = .returned (.int .i64 (i : Int)) ∧ w' = w.alloc (.cells #[.int .i64 (x : Int), .int .i64 (y : Int)] 89) := by
  subst hi; exact index_any x y hx hy w
theorem infoPl : (Tryd.prog.info? 89).map (·.size) = some 2 := by kernel_rfl

theorem result_cells {P : Program} {fn : Func} {p : Tmp} {ty t : TypeId} {d : TypeDesc} (h : fn.results = #[.cell p ty]) {tmps : Array Value} {w : World} {g : Nat} {cs : Array Value} (hp : tmps.getD p undef = .pointer (some ⟨g, 0, none⟩))
    (hA : w.heap[g]? = some (.cells cs t (0, 0))) (hu : P.underlying ty = some d) (hd : (match d with | .struct _ | .array _ _ => true | _ => false) = true) (hi : (P.info? ty).map (·.size) = some cs.size) : (results fn tmps).run P w = .ok (.agg cs) w := by
  have hl := run_loadVar_row w g t ty cs (0, 0) _ hA hu hd hi
  have hp' : tmps[p]?.getD undef = .pointer (some ⟨g, 0, none⟩) := by simpa using hp
  simp [results, h, hp', asAddr, hl]

set_option maxRecDepth 100000 in
theorem moved_any (x y : Nat) (hx : x < 5) (hy : y < 5) (w : World) :
    Calls Tryd.prog 77 #[.agg (pl x y)] w fun e w' => e = .returned (.agg (pl y ((2 * x + 3 * y) % 5))) ∧ w' = (w.alloc (.cells (pl x y) 89)).alloc (.cells (pl y ((2 * x + 3 * y) % 5)) 89) := by
  obtain ⟨z, hz⟩ : ∃ z, z = (2 * x + 3 * y) % 5 := ⟨_, rfl⟩
  have h1 : (2 * (x : Int) + 3 * (y : Int)) % 5 = (z : Int) := by omega
  have h2 : Int.tmod (2 * (x : Int) + 3 * (y : Int)) 5 = (z : Int) := by rw [Int.tmod_eq_emod_of_nonneg (by omega)]; exact h1
  rw [← hz]
  clear hz
  unfold pl
  go_enter Tryd.func77, Tryd.ntmps77
  go_wp2
  have hA : ((w.alloc (.cells #[.int .i64 (x : Int), .int .i64 (y : Int)] 89)).alloc (.cells #[.int .i64 (y : Int), .int .i64 (z : Int)] 89)).heap[w.heap.size + 1]? = some (.cells #[.int .i64 (y : Int), .int .i64 (z : Int)] 89 (0, 0)) := by
    have := heap_alloc_last (w.alloc (.cells #[.int .i64 (x : Int), .int .i64 (y : Int)] 89)) (.cells #[.int .i64 (y : Int), .int .i64 (z : Int)] 89)
    rwa [size_alloc] at this
  refine bodyPost_ret_by (result_cells rfl rfl hA Tryd.underlying89 rfl infoPl) rfl ⟨rfl, rfl⟩

end Go.Proofs.YtkmelamfohfdkabDoor

/-
  Places of words in blocks.
-/
namespace Go.Proofs.YtkmelamfohfdkabDoor
open Go.RowKit

/-- Block g holds this place. -/
def PlaceAt (w : World) (g x y : Nat) : Prop := w.heap[g]? = some (.cells (pl x y) 89 (0, 0))

theorem PlaceAt.lt {w : World} {g x y : Nat} (h : PlaceAt w g x y) : g < w.heap.size := (Array.getElem?_eq_some_iff.1 h).1
theorem PlaceAt.c0 {w : World} {g x y : Nat} (h : PlaceAt w g x y) : w.cell? ⟨g, 0, none⟩ = some (.int .i64 (x : Int)) := by
  rw [cell_of_row _ _ 0 _ _ _ h]; rfl
theorem PlaceAt.c1 {w : World} {g x y : Nat} (h : PlaceAt w g x y) : w.cell? ⟨g, 1, none⟩ = some (.int .i64 (y : Int)) := by
  rw [cell_of_row _ _ 1 _ _ _ h]; rfl
theorem PlaceAt.alloc {w : World} {g x y : Nat} (h : PlaceAt w g x y) (o : Obj) : PlaceAt (w.alloc o) g x y := by
  have := h.lt
  show (w.heap.push o)[g]? = _
  rw [Array.getElem?_push, if_neg (by omega)]
  exact h
theorem PlaceAt.other {w : World} {g g' i x y : Nat} (h : PlaceAt w g x y) (hne : g' ≠ g) (v : Value) : PlaceAt (w.setCell ⟨g', i, none⟩ v) g x y := by
  unfold PlaceAt at h ⊢
  simp only [World.setCell]
  rw [Array.getElem?_modify, if_neg hne, h]
theorem PlaceAt.new {w : World} {g x y : Nat} (hg : g = w.heap.size) : PlaceAt (w.alloc (.cells (pl x y) 89)) g x y := by
  subst hg; exact heap_alloc_last w _

theorem pl_one (x y : Nat) : (pl x y).all (·.oneCell') = true := by
  rw [Array.all_eq_true_iff_forall_mem]
  intro v hv
  simp [pl] at hv
  rcases hv with rfl | rfl <;> rfl
/-- A place out of its block. -/
theorem load_place {w : World} {ops : Array Oper} {rest : List Oper} {o : Oper} {a : Act} {Q : Exit → Act → World → Prop} (hg : o.guard = none) {p : Operand} (hop : o.op = Op.load 89 p)
    {g x y : Nat} (hp : a.eval p = .pointer (some ⟨g, 0, none⟩)) (h : PlaceAt w g x y)
    (K : wpList Tryd.prog ops Q rest (a.put o.dst (.agg (pl x y))) w) : wpList Tryd.prog ops Q (o :: rest) a w := by
  refine wpList_plain hg fun K' hK' => ?_
  have hrun : (Instr.loadAt 89 (.pointer (some ⟨g, 0, none⟩))).run Tryd.prog w = .ok (.agg (pl x y)) w := by
    simp only [Instr.loadAt, Instr.sureAddr, Sem.run_bind, Sem.run_pure, Result.andThen]
    exact run_loadVar_row w g 89 89 (pl x y) (0, 0) _ h Tryd.underlying89 rfl infoPl
  unfold Oper.wp
  simp [execOp, hop, hp, hrun, Result.andThen]
  exact hK' _ _ K
/-- A place into its block. -/
theorem store_place {w : World} {ops : Array Oper} {rest : List Oper} {o : Oper} {a : Act} {Q : Exit → Act → World → Prop} (hg : o.guard = none) {p v : Operand} (hop : o.op = Op.store 89 p v)
    {g x y x' y' : Nat} (hp : a.eval p = .pointer (some ⟨g, 0, none⟩)) (hv : a.eval v = .agg (pl x' y')) (h : PlaceAt w g x y)
    (K : ∀ w', PlaceAt w' g x' y' → (∀ g', g ≠ g' → w'.heap[g']? = w.heap[g']?) → (∀ B w0, B ≤ g → Below B w0 w → Below B w0 w') → wpList Tryd.prog ops Q rest (a.put o.dst undef) w') : wpList Tryd.prog ops Q (o :: rest) a w := by
  refine wpList_plain hg fun K' hK' => ?_
  have hrun : (Instr.storeAt 89 (.pointer (some ⟨g, 0, none⟩)) (.agg (pl x' y'))).run Tryd.prog w = .ok () (w.setRow g (pl x' y')) := by
    simp only [Instr.storeAt, Instr.sureAddr, Sem.run_bind, Sem.run_pure, Result.andThen]
    exact run_storeVar_row w g 89 89 (pl x y) (pl x' y') h infoPl rfl (pl_one _ _)
  unfold Oper.wp
  simp [execOp, hop, hp, hv, hrun, Result.andThen]
  refine hK' _ _ (K _ ?_ (fun g' hne => by simp only [World.setRow]; rw [Array.getElem?_modify, if_neg hne]) (fun _ _ hB hb => below_setRow hb hB _))
  unfold PlaceAt at h ⊢
  simp only [World.setRow]
  rw [Array.getElem?_modify, if_pos rfl, h]
  rfl

theorem same_place (x y : Nat) (w : World) : (Op.equalIn 10000 89 (.agg (pl x y)) (.agg (pl 1 0))).run Tryd.prog w = .ok (((x : Int) == 1) && ((y : Int) == 0)) w := by
  unfold pl
  go_simp
  by_cases h1 : (x : Int) = 1
  · by_cases h2 : y = 0
    · simp [h1, h2]
    · have h2' : ¬ (y : Int) = 0 := by omega
      rw [if_pos h1, if_neg h2]; simp [h1, h2]
  · rw [if_neg h1]; simp [h1]

end Go.Proofs.YtkmelamfohfdkabDoor
