/-
  Arrays of words in blocks.
-/
import Derived.Test.YtkiljlmihoaaaaaDoorProg
import Derived.Test.YtkiljlmihoaaaaaDoorRoundPure
import Derived.WalkKit
import Derived.WalkLawsBesides
import Derived.WalkSpells
import Derived.Deep.WholeRow
import Derived.BigRegion
import Derived.ChangeKeysEq
import Derived.Laws.CopyOwn
import Derived.Deep.QuietTactic
import Derived.BigQuiet
namespace Go.Proofs.YtkiljlmihoaaaaaDoor
open Go.RowKit

theorem infoS : (Tryd.prog.info? 64).map (·.size) = some 25 := by kernel_rfl
theorem infoCw : (Tryd.prog.info? 80).map (·.size) = some 5 := by kernel_rfl

/-- n words as cells. -/
def sc (f : Nat → BitVec 64) (n : Nat) : Array Value := ((List.range n).map fun i => Value.int .u64 (wv (f i))).toArray

theorem sc_size (f : Nat → BitVec 64) (n : Nat) : (sc f n).size = n := by simp [sc]
theorem sc_at (f : Nat → BitVec 64) (n i : Nat) (h : i < n) : (sc f n)[i]? = some (.int .u64 (wv (f i))) := by simp [sc, h]
theorem sc_one (f : Nat → BitVec 64) (n : Nat) : (sc f n).all (·.oneCell') = true := by
  rw [Array.all_eq_true_iff_forall_mem]
  intro x hx
  simp [sc] at hx
  obtain ⟨i, _, rfl⟩ := hx
  rfl
theorem sc_congr {f g : Nat → BitVec 64} {n : Nat} (h : ∀ i, i < n → f i = g i) : sc f n = sc g n := by
  unfold sc
  congr 1
  apply List.map_congr_left
  intro i hi
  rw [h i (by simpa using hi)]
theorem sc_set (f : Nat → BitVec 64) (n i : Nat) (v : BitVec 64) : (sc f n).setIfInBounds i (.int .u64 (wv v)) = sc (upd f i v) n := by
  apply Array.ext_getElem?
  intro j
  rw [Array.getElem?_setIfInBounds]
  by_cases hj : j < n
  · rw [sc_at (upd f i v) _ _ hj, sc_at f _ _ hj]
    by_cases e : i = j
    · subst e; simp [sc_size, hj, upd]
    · have e' : ¬ j = i := fun x => e x.symm
      simp [e, upd, e']
  · have h1 : (sc (upd f i v) n)[j]? = none := Array.getElem?_eq_none (by rw [sc_size]; omega)
    have h2 : (sc f n)[j]? = none := Array.getElem?_eq_none (by rw [sc_size]; omega)
    rw [h1, h2]
    by_cases e : i = j
    · subst e; simp [sc_size, hj]
    · simp [e]

/-- Block g holds these n words. -/
def At (w : World) (g : Nat) (t : TypeId) (n : Nat) (f : Nat → BitVec 64) : Prop := w.heap[g]? = some (.cells (sc f n) t (0, 0))

theorem At.lt {w : World} {g n : Nat} {t : TypeId} {f : Nat → BitVec 64} (h : At w g t n f) : g < w.heap.size := (Array.getElem?_eq_some_iff.1 h).1
theorem At.cell {w : World} {g n : Nat} {t : TypeId} {f : Nat → BitVec 64} (h : At w g t n f) (i : Nat) (hi : i < n) : w.cell? ⟨g, i, none⟩ = some (.int .u64 (wv (f i))) := by
  rw [cell_of_row _ _ i _ _ _ h, sc_at _ _ _ hi]
theorem At.free {w : World} {g n : Nat} {t : TypeId} {f : Nat → BitVec 64} (h : At w g t n f) (i : Nat) : w.frozen? ⟨g, i, none⟩ = false := by
  unfold World.frozen?
  rw [h]
  simp
theorem At.new (w : World) (t : TypeId) (n : Nat) (f : Nat → BitVec 64) : At (w.alloc (.cells (sc f n) t)) w.heap.size t n f := heap_alloc_last w _
theorem At.new' {w : World} {t : TypeId} {n g : Nat} {f : Nat → BitVec 64} {c : Array Value} (hg : g = w.heap.size) (hc : c = sc f n) : At (w.alloc (.cells c t)) g t n f := by
  subst hg hc; exact At.new w t n f
theorem size_alloc (w : World) (o : Obj) : (w.alloc o).heap.size = w.heap.size + 1 := by simp
theorem At.alloc {w : World} {g n : Nat} {t : TypeId} {f : Nat → BitVec 64} (h : At w g t n f) (o : Obj) : At (w.alloc o) g t n f := by
  have := h.lt
  show (w.heap.push o)[g]? = _
  rw [Array.getElem?_push, if_neg (by omega)]
  exact h
theorem At.set {w : World} {g n : Nat} {t : TypeId} {f : Nat → BitVec 64} (h : At w g t n f) (i : Nat) (v : BitVec 64) : At (w.setCell ⟨g, i, none⟩ (.int .u64 (wv v))) g t n (upd f i v) := by
  have := h
  unfold At at this ⊢
  simp only [World.setCell]
  rw [Array.getElem?_modify, if_pos rfl, this, ← sc_set]
  rfl
theorem At.other {w : World} {g g' n i : Nat} {t : TypeId} {f : Nat → BitVec 64} (h : At w g t n f) (hne : g' ≠ g) (v : Value) : At (w.setCell ⟨g', i, none⟩ v) g t n f := by
  unfold At at h ⊢
  simp only [World.setCell]
  rw [Array.getElem?_modify, if_neg hne, h]
theorem At.row {w : World} {g n : Nat} {t : TypeId} {f : Nat → BitVec 64} (h : At w g t n f) (f' : Nat → BitVec 64) : At (w.setRow g (sc f' n)) g t n f' := by
  unfold At at h ⊢
  simp only [World.setRow]
  rw [Array.getElem?_modify, if_pos rfl, h]
  rfl
theorem At.rowOther {w : World} {g g' n : Nat} {t : TypeId} {f : Nat → BitVec 64} (h : At w g t n f) (hne : g' ≠ g) (cs : Array Value) : At (w.setRow g' cs) g t n f := by
  unfold At at h ⊢
  simp only [World.setRow]
  rw [Array.getElem?_modify, if_neg hne, h]
theorem At.on {w w1 : World} {c g n : Nat} {t : TypeId} {f : Nat → BitVec 64} (h : At w g t n f) (hb : Below c w w1) (hc : g < c) : At w1 g t n f := (hb.block g hc).trans h
theorem At.load {P : Program} {w : World} {g n : Nat} {t : TypeId} {f : Nat → BitVec 64} (h : At w g t n f) : (loadCellsFrom ⟨g, 0, none⟩ 0 n #[]).run P w = .ok (sc f n) w := by
  have := run_loadCells_list (P := P) w ⟨g, 0, none⟩ (sc f n).toList (fun j v hv => by
    have hadd : (⟨g, 0, none⟩ : Addr).add j = ⟨g, j, none⟩ := by unfold Addr.add; split <;> simp_all
    rw [hadd, cell_of_row _ _ j _ _ _ h]
    simpa using hv)
  simpa [loadCells, sc_size] using this
theorem At.store {P : Program} {w : World} {g n : Nat} {t ty : TypeId} {f : Nat → BitVec 64} (h : At w g t n f) (hi : (P.info? ty).map (·.size) = some n) (f' : Nat → BitVec 64) :
    (storeCells ⟨g, 0, none⟩ (sc f' n).toList 0).run P w = .ok () (w.setRow g (sc f' n)) := by
  have := run_storeVar_row (P := P) w g t ty (sc f n) (sc f' n) h (by rw [sc_size]; exact hi) (by rw [sc_size, sc_size]) (sc_one _ _)
  cases hq : P.info? ty with
  | none => simp [hq] at hi
  | some i =>
    have hs : n = i.size := by simp [hq] at hi; omega
    simpa [storeVar, sizeOf, typeInfo, hq, Value.cells, sc_size, hs] using this
/-- A whole array out of its block. -/
theorem load_at {P : Program} {w : World} {ops : Array Oper} {rest : List Oper} {o : Oper} {a : Act} {Q : Exit → Act → World → Prop} (hg : o.guard = none) {t : TypeId} {p : Operand} (hop : o.op = Op.load t p)
    {g n : Nat} {t' e : TypeId} {f : Nat → BitVec 64} (hp : a.eval p = .pointer (some ⟨g, 0, none⟩)) (h : At w g t' n f) (hu : P.underlying t = some (.array n e)) (hi : (P.info? t).map (·.size) = some n)
    (K : wpList P ops Q rest (a.put o.dst (.agg (sc f n))) w) : wpList P ops Q (o :: rest) a w := by
  refine wpList_plain hg fun K' hK' => ?_
  have hrun : (Instr.loadAt t (.pointer (some ⟨g, 0, none⟩))).run P w = .ok (.agg (sc f n)) w := by
    simp only [Instr.loadAt, Instr.sureAddr, Sem.run_bind, Sem.run_pure, Result.andThen]
    exact run_loadVar_row w g t' t (sc f n) (0, 0) _ h hu rfl (by rw [sc_size]; exact hi)
  unfold Oper.wp
  simp [execOp, hop, hp, hrun, Result.andThen]
  exact hK' _ _ K
/-- A whole array into its block. -/
theorem store_at {P : Program} {w : World} {ops : Array Oper} {rest : List Oper} {o : Oper} {a : Act} {Q : Exit → Act → World → Prop} (hg : o.guard = none) {t : TypeId} {p v : Operand} (hop : o.op = Op.store t p v)
    {g n : Nat} {t' : TypeId} {f f' : Nat → BitVec 64} (hp : a.eval p = .pointer (some ⟨g, 0, none⟩)) (hv : a.eval v = .agg (sc f' n)) (h : At w g t' n f) (hi : (P.info? t).map (·.size) = some n)
    (K : wpList P ops Q rest (a.put o.dst undef) (w.setRow g (sc f' n))) : wpList P ops Q (o :: rest) a w := by
  refine wpList_plain hg fun K' hK' => ?_
  have hrun : (Instr.storeAt t (.pointer (some ⟨g, 0, none⟩)) (.agg (sc f' n))).run P w = .ok () (w.setRow g (sc f' n)) := by
    simp only [Instr.storeAt, Instr.sureAddr, Sem.run_bind, Sem.run_pure, Result.andThen]
    exact run_storeVar_row w g t' t (sc f n) (sc f' n) h (by rw [sc_size]; exact hi) (by rw [sc_size, sc_size]) (sc_one _ _)
  unfold Oper.wp
  simp [execOp, hop, hp, hv, hrun, Result.andThen]
  exact hK' _ _ K
/-- A result that lives in a block. -/
theorem result_at {P : Program} {fn : Func} {p : Tmp} {ty t e : TypeId} (h : fn.results = #[.cell p ty]) {tmps : Array Value} {w : World} {g n : Nat} {f : Nat → BitVec 64} (hp : tmps.getD p undef = .pointer (some ⟨g, 0, none⟩))
    (hA : At w g t n f) (hu : P.underlying ty = some (.array n e)) (hi : (P.info? ty).map (·.size) = some n) : (results fn tmps).run P w = .ok (.agg (sc f n)) w := by
  have hl := run_loadVar_row w g t ty (sc f n) (0, 0) _ hA hu rfl (by rw [sc_size]; exact hi)
  have hp' : tmps[p]?.getD undef = .pointer (some ⟨g, 0, none⟩) := by simpa using hp
  simp [results, h, hp', asAddr, hl]
theorem below_row {B g : Nat} {w0 w : World} (hb : Below B w0 w) (hBg : B ≤ g) (cs : Array Value) : Below B w0 (w.setRow g cs) :=
  below_setRow hb hBg cs
/-- The same, the world behind it under a new name. -/
theorem store_to {P : Program} {w : World} {ops : Array Oper} {rest : List Oper} {o : Oper} {a : Act} {Q : Exit → Act → World → Prop} (hg : o.guard = none) {t : TypeId} {p v : Operand} (hop : o.op = Op.store t p v)
    {g n : Nat} {t' : TypeId} {f f' : Nat → BitVec 64} (hp : a.eval p = .pointer (some ⟨g, 0, none⟩)) (hv : a.eval v = .agg (sc f' n)) (h : At w g t' n f) (hi : (P.info? t).map (·.size) = some n)
    (K : ∀ w', At w' g t' n f' → (∀ g', g ≠ g' → w'.heap[g']? = w.heap[g']?) → w'.heap.size = w.heap.size → (∀ B w0, B ≤ g → Below B w0 w → Below B w0 w') → wpList P ops Q rest (a.put o.dst undef) w') : wpList P ops Q (o :: rest) a w :=
  store_at hg hop hp hv h hi (K _ (h.row f') (fun g' hne => by simp only [World.setRow]; rw [Array.getElem?_modify, if_neg hne]) (by simp [World.setRow]) (fun _ _ hB hb => below_setRow hb hB _))
/-- One word into its block. -/
theorem store_cell {w : World} {ops : Array Oper} {rest : List Oper} {o : Oper} {a : Act} {Q : Exit → Act → World → Prop} (hg : o.guard = none) {p v : Operand} (hop : o.op = Op.store 56 p v)
    {g n i : Nat} {t' : TypeId} {f : Nat → BitVec 64} {x : BitVec 64} (hp : a.eval p = .pointer (some ⟨g, i, none⟩)) (hv : a.eval v = .int .u64 (wv x)) (h : At w g t' n f) (hi : i < n)
    (K : ∀ w', At w' g t' n (upd f i x) → (∀ g' t'' n' f', g ≠ g' → At w g' t'' n' f' → At w' g' t'' n' f') → (∀ B w0, B ≤ g → Below B w0 w → Below B w0 w') → wpList Tryd.prog ops Q rest (a.put o.dst undef) w') : wpList Tryd.prog ops Q (o :: rest) a w := by
  refine wpList_plain hg fun K' hK' => ?_
  have hc := h.cell i hi
  have hf := h.free i
  have hrun : (Instr.storeAt 56 (.pointer (some ⟨g, i, none⟩)) (.int .u64 (wv x))).run Tryd.prog w = .ok () (w.setCell ⟨g, i, none⟩ (.int .u64 (wv x))) := by
    go_simp
  unfold Oper.wp
  simp [execOp, hop, hp, hv, hrun, Result.andThen]
  exact hK' _ _ (K _ (h.set i x) (fun g' t'' n' f' hne h' => h'.other hne _) (fun B w0 hB hb => hb.setCell hB _))
theorem run_not (P : Program) (w : World) (x : BitVec 64) : (Op.unary .xor (.int .u64 (wv x))).run P w = .ok (.int .u64 (wv (~~~ x))) w := by
  have h1 : Op.unary .xor (.int .u64 (wv x)) = pure (.int .u64 (bits .xor .u64 18446744073709551615 (wv x))) := rfl
  rw [h1, wv_not]; rfl
/-- A word's other side. -/
theorem not_word {P : Program} {w : World} {ops : Array Oper} {rest : List Oper} {o : Oper} {a : Act} {Q : Exit → Act → World → Prop} (hg : o.guard = none) {t : TypeId} {p : Operand} (hop : o.op = Op.unOp .xor t p)
    {x : BitVec 64} (hp : a.eval p = .int .u64 (wv x)) (K : wpList P ops Q rest (a.put o.dst (.int .u64 (wv (~~~ x)))) w) : wpList P ops Q (o :: rest) a w := by
  refine wpList_plain hg fun K' hK' => ?_
  have hrun := run_not P w x
  unfold Oper.wp
  simp [execOp, hop, hp, hrun, Result.andThen]
  exact hK' _ _ K
theorem At.drewN {w : World} {g n : Nat} {t : TypeId} {f : Nat → BitVec 64} (h : At w g t n f) (m : Nat) : At (w.drewN m) g t n f := h
theorem below_drewN {B : Nat} {a w : World} (h : Below B a w) (n : Nat) : Below B a (w.drewN n) := ⟨h.os, h.tape, h.output, h.size, h.block⟩
theorem At.drew {w : World} {g n : Nat} {t : TypeId} {f : Nat → BitVec 64} (h : At w g t n f) : At w.drew g t n f := h
theorem At.eq {w : World} {g n : Nat} {t : TypeId} {f f' : Nat → BitVec 64} (h : At w g t n f) (e : f = f') : At w g t n f' := e ▸ h
theorem At.congr {w : World} {g n : Nat} {t : TypeId} {f f' : Nat → BitVec 64} (h : At w g t n f) (e : ∀ i, i < n → f i = f' i) : At w g t n f' := by
  unfold At at h ⊢
  rw [h, sc_congr e]

end Go.Proofs.YtkiljlmihoaaaaaDoor
