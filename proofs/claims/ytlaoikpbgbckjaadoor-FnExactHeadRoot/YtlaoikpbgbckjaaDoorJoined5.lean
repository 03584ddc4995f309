/-
  Texts of one's own, joined.
-/
import Derived.Test.YtlaoikpbgbckjaaDoorProg
import Derived.Test.YtlaoikpbgbckjaaDoorJoined4
import Derived.WalkKit
import Derived.WalkLawsBesides
import Derived.WalkSpells
import Derived.Deep.WholeRow
import Derived.BigRegion
import Derived.ChangeKeysEq
import Derived.Laws.CopyOwn
import Derived.Deep.QuietTactic
import Derived.BigQuiet

/-
  Arrays of words in blocks.
-/
namespace Go.Proofs.YtlaoikpbgbckjaaDoor
open Go.RowKit

theorem infoS : (Tryd.prog.info? 97).map (·.size) = some 25 := by kernel_rfl
theorem infoCw : (Tryd.prog.info? 111).map (·.size) = some 5 := by kernel_rfl

/-- n words as cells. -/
def sc (f : Nat → BitVec 64) (n : Nat) : Array Value := ((List.range n).map fun i => Value.int .u64 (wv (f i))).toArray

theorem sc_size (f : Nat → BitVec 64) (n : Nat) : (sc f n).size = n := by simp [sc]
theorem sc_at (f : Nat → BitVec 64) (n i : Nat) (h : i < n) : (sc f n)[i]? = some (.int .u64 (wv (f i))) := by simp [sc, h]
theorem sc_one (f : Nat → BitVec 64) (n : Nat) : (sc f n).all (·.oneCell') = true := by
  rw [Array.all_eq_true_iff_forall_mem]
  intro x hx
  simp [sc] at hx
  obtain ⟨i, _, rfl⟩ := hx
  rfl
theorem sc_congr {f g : Nat → BitVec 64} {n : Nat} (h : ∀ i, i < n → f i = g i) : sc f n = sc g n := by
  unfold sc
  congr 1
  apply List.map_congr_left
  intro i hi
  rw [h i (by simpa using hi)]
theorem sc_set (f : Nat → BitVec 64) (n i : Nat) (v : BitVec 64) : (sc f n).setIfInBounds i (.int .u64 (wv v)) = sc (upd f i v) n := by
  apply Array.ext_getElem?
  intro j
  rw [Array.getElem?_setIfInBounds]
  by_cases hj : j < n
  · rw [sc_at (upd f i v) _ _ hj, sc_at f _ _ hj]
    by_cases e : i = j
    · subst e; simp [sc_size, hj, upd]
    · have e' : ¬ j = i := fun x => e x.symm
      simp [e, upd, e']
  · have h1 : (sc (upd f i v) n)[j]? = none := Array.getElem?_eq_none (by rw [sc_size]; omega)
    have h2 : (sc f n)[j]? = none := Array.getElem?_eq_none (by rw [sc_size]; omega)
    rw [h1, h2]
    by_cases e : i = j
    · subst e; simp [sc_size, hj]
    · simp [e]

/-- Block g holds these n words. -/
def At (w : World) (g : Nat) (t : TypeId) (n : Nat) (f : Nat → BitVec 64) : Prop := w.heap[g]? = some (.cells (sc f n) t (0, 0))

theorem At.lt {w : World} {g n : Nat} {t : TypeId} {f : Nat → BitVec 64} (h : At w g t n f) : g < w.heap.size := (Array.getElem?_eq_some_iff.1 h).1
theorem At.cell {w : World} {g n : Nat} {t : TypeId} {f : Nat → BitVec 64} (h : At w g t n f) (i : Nat) (hi : i < n) : w.cell? ⟨g, i, none⟩ = some (.int .u64 (wv (f i))) := by
  rw [cell_of_row _ _ i _ _ _ h, sc_at _ _ _ hi]
theorem At.free {w : World} {g n : Nat} {t : TypeId} {f : Nat → BitVec 64} (h : At w g t n f) (i : Nat) : w.frozen? ⟨g, i, none⟩ = false := by
  unfold World.frozen?
  rw [h]
  simp
theorem At.new (w : World) (t : TypeId) (n : Nat) (f : Nat → BitVec 64) : At (w.alloc (.cells (sc f n) t)) w.heap.size t n f := heap_alloc_last w _
theorem At.new' {w : World} {t : TypeId} {n g : Nat} {f : Nat → BitVec 64} {c : Array Value} (hg : g = w.heap.size) (hc : c = sc f n) : At (w.alloc (.cells c t)) g t n f := by
  subst hg hc; exact At.new w t n f
theorem size_alloc (w : World) (o : Obj) : (w.alloc o).heap.size = w.heap.size + 1 := by simp
theorem At.alloc {w : World} {g n : Nat} {t : TypeId} {f : Nat → BitVec 64} (h : At w g t n f) (o : Obj) : At (w.alloc o) g t n f := by
  have := h.lt
  show (w.heap.push o)[g]? = _
  rw [Array.getElem?_push, if_neg (by omega)]
  exact h
theorem At.set {w : World} {g n : Nat} {t : TypeId} {f : Nat → BitVec 64} (h : At w g t n f) (i : Nat) (v : BitVec 64) : At (w.setCell ⟨g, i, none⟩ (.int .u64 (wv v))) g t n (upd f i v) := by
  have := h
  unfold At at this ⊢
  simp only [World.setCell]
  rw [Array.getElem?_modify, if_pos rfl, this, ← sc_set]
  rfl
theorem At.other {w : World} {g g' n i : Nat} {t : TypeId} {f : Nat → BitVec 64} (h : At w g t n f) (hne : g' ≠ g) (v : Value) : At (w.setCell ⟨g', i, none⟩ v) g t n f := by
  unfold At at h ⊢
  simp only [World.setCell]
  rw [Array.getElem?_modify, if_neg hne, h]
theorem At.row {w : World} {g n : Nat} {t : TypeId} {f : Nat → BitVec 64} (h : At w g t n f) (f' : Nat → BitVec 64) : At (w.setRow g (sc f' n)) g t n f' := by
  unfold At at h ⊢
  simp only [World.setRow]
  rw [Array.getElem?_modify, if_pos rfl, h]
  rfl
theorem At.rowOther {w : World} {g g' n : Nat} {t : TypeId} {f : Nat → BitVec 64} (h : At w g t n f) (hne : g' ≠ g) (cs : Array Value) : At (w.setRow g' cs) g t n f := by
  unfold At at h ⊢
  simp only [World.setRow]
  rw [Array.getElem?_modify, if_neg hne, h]
theorem At.on {w w1 : World} {c g n : Nat} {t : TypeId} {f : Nat → BitVec 64} (h : At w g t n f) (hb : Below c w w1) (hc : g < c) : At w1 g t n f := (hb.block g hc).trans h
theorem At.load {P : Program} {w : World} {g n : Nat} {t : TypeId} {f : Nat → BitVec 64} (h : At w g t n f) : (loadCellsFrom ⟨g, 0, none⟩ 0 n #[]).run P w = .ok (sc f n) w := by
  have := run_loadCells_list (P := P) w ⟨g, 0, none⟩ (sc f n).toList (fun j v hv => by
    have hadd : (⟨g, 0, none⟩ : Addr).add j = ⟨g, j, none⟩ := by unfold Addr.add; split <;> simp_all
    rw [hadd, cell_of_row _ _ j _ _ _ h]
    simpa using hv)
  simpa [loadCells, sc_size] using this
theorem At.store {P : Program} {w : World} {g n : Nat} {t ty : TypeId} {f : Nat → BitVec 64} (h : At w g t n f) (hi : (P.info? ty).map (·.size) = some n) (f' : Nat → BitVec 64) :
    (storeCells ⟨g, 0, none⟩ (sc f' n).toList 0).run P w = .ok () (w.setRow g (sc f' n)) := by
  have := run_storeVar_row (P := P) w g t ty (sc f n) (sc f' n) h (by rw [sc_size]; exact hi) (by rw [sc_size, sc_size]) (sc_one _ _)
  cases hq : P.info? ty with
  | none => simp [hq] at hi
  | some i =>
    have hs : n = i.size := by simp [hq] at hi; omega
    simpa [storeVar, sizeOf, typeInfo, hq, Value.cells, sc_size, hs] using this
/-- A whole array out of its block. -/
theorem load_at {P : Program} {w : World} {ops : Array Oper} {rest : List Oper} {o : Oper} {a : Act} {Q : Exit → Act → World → Prop} (hg : o.guard = none) {t : TypeId} {p : Operand} (hop : o.op = Op.load t p)
    {g n : Nat} {t' e : TypeId} {f : Nat → BitVec 64} (hp : a.eval p = .pointer (some ⟨g, 0, none⟩)) (h : At w g t' n f) (hu : P.underlying t = some (.array n e)) (hi : (P.info? t).map (·.size) = some n)
    (K : wpList P ops Q rest (a.put o.dst (.agg (sc f n))) w) : wpList P ops Q (o :: rest) a w := by
  refine wpList_plain hg fun K' hK' => ?_
  have hrun : (Instr.loadAt t (.pointer (some ⟨g, 0, none⟩))).run P w = .ok (.agg (sc f n)) w := by
    simp only [Instr.loadAt, Instr.sureAddr, Sem.run_bind, Sem.run_pure, Result.andThen]
    exact run_loadVar_row w g t' t (sc f n) (0, 0) _ h hu rfl (by rw [sc_size]; exact hi)
  unfold Oper.wp
  simp [execOp, hop, hp, hrun, Result.andThen]
  exact hK' _ _ K
/-- A whole array into its block. -/
theorem store_at {P : Program} {w : World} {ops : Array Oper} {rest : List Oper} {o : Oper} {a : Act} {Q : Exit → Act → World → Prop} (hg : o.guard = none) {t : TypeId} {p v : Operand} (hop : o.op = Op.store t p v)
    {g n : Nat} {t' : TypeId} {f f' : Nat → BitVec 64} (hp : a.eval p = .pointer (some ⟨g, 0, none⟩)) (hv : a.eval v = .agg (sc f' n)) (h : At w g t' n f) (hi : (P.info? t).map (·.size) = some n)
    (K : wpList P ops Q rest (a.put o.dst undef) (w.setRow g (sc f' n))) : wpList P ops Q (o :: rest) a w := by
  refine wpList_plain hg fun K' hK' => ?_
  have hrun : (Instr.storeAt t (.pointer (some ⟨g, 0, none⟩)) (.agg (sc f' n))).run P w = .ok () (w.setRow g (sc f' n)) := by
    simp only [Instr.storeAt, Instr.sureAddr, Sem.run_bind, Sem.run_pure, Result.andThen]
    exact run_storeVar_row w g t' t (sc f n) (sc f' n) h (by rw [sc_size]; exact hi) (by rw [sc_size, sc_size]) (sc_one _ _)
  unfold Oper.wp
  simp [execOp, hop, hp, hv, hrun, Result.andThen]
  exact hK' _ _ K
/-- A result that lives in a block. -/
theorem result_at {P : Program} {fn : Func} {p : Tmp} {ty t e : TypeId} (h : fn.results = #[.cell p ty]) {tmps : Array Value} {w : World} {g n : Nat} {f : Nat → BitVec 64} (hp : tmps.getD p undef = .pointer (some ⟨g, 0, none⟩))
    (hA : At w g t n f) (hu : P.underlying ty = some (.array n e)) (hi : (P.info? ty).map (·.size) = some n) : (results fn tmps).run P w = .ok (.agg (sc f n)) w := by
  have hl := run_loadVar_row w g t ty (sc f n) (0, 0) _ hA hu rfl (by rw [sc_size]; exact hi)
  have hp' : tmps[p]?.getD undef = .pointer (some ⟨g, 0, none⟩) := by simpa using hp
  simp [results, h, hp', asAddr, hl]
theorem below_row {B g : Nat} {w0 w : World} (hb : Below B w0 w) (hBg : B ≤ g) (cs : Array Value) : Below B w0 (w.setRow g cs) :=
  below_setRow hb hBg cs
/-- The same, the world behind it under a new name. -/
theorem store_to {P : Program} {w : World} {ops : Array Oper} {rest : List Oper} {o : Oper} {a : Act} {Q : Exit → Act → World → Prop} (hg : o.guard = none) {t : TypeId} {p v : Operand} (hop : o.op = Op.store t p v)
    {g n : Nat} {t' : TypeId} {f f' : Nat → BitVec 64} (hp : a.eval p = .pointer (some ⟨g, 0, none⟩)) (hv : a.eval v = .agg (sc f' n)) (h : At w g t' n f) (hi : (P.info? t).map (·.size) = some n)
    (K : ∀ w', At w' g t' n f' → (∀ g', g ≠ g' → w'.heap[g']? = w.heap[g']?) → w'.heap.size = w.heap.size → (∀ B w0, B ≤ g → Below B w0 w → Below B w0 w') → wpList P ops Q rest (a.put o.dst undef) w') : wpList P ops Q (o :: rest) a w :=
  store_at hg hop hp hv h hi (K _ (h.row f') (fun g' hne => by simp only [World.setRow]; rw [Array.getElem?_modify, if_neg hne]) (by simp [World.setRow]) (fun _ _ hB hb => below_setRow hb hB _))
/-- One word into its block. -/
theorem store_cell {w : World} {ops : Array Oper} {rest : List Oper} {o : Oper} {a : Act} {Q : Exit → Act → World → Prop} (hg : o.guard = none) {p v : Operand} (hop : o.op = Op.store 89 p v)
    {g n i : Nat} {t' : TypeId} {f : Nat → BitVec 64} {x : BitVec 64} (hp : a.eval p = .pointer (some ⟨g, i, none⟩)) (hv : a.eval v = .int .u64 (wv x)) (h : At w g t' n f) (hi : i < n)
    (K : ∀ w', At w' g t' n (upd f i x) → (∀ g' t'' n' f', g ≠ g' → At w g' t'' n' f' → At w' g' t'' n' f') → (∀ B w0, B ≤ g → Below B w0 w → Below B w0 w') → wpList Tryd.prog ops Q rest (a.put o.dst undef) w') : wpList Tryd.prog ops Q (o :: rest) a w := by
  refine wpList_plain hg fun K' hK' => ?_
  have hc := h.cell i hi
  have hf := h.free i
  have hrun : (Instr.storeAt 89 (.pointer (some ⟨g, i, none⟩)) (.int .u64 (wv x))).run Tryd.prog w = .ok () (w.setCell ⟨g, i, none⟩ (.int .u64 (wv x))) := by
    go_simp
  unfold Oper.wp
  simp [execOp, hop, hp, hv, hrun, Result.andThen]
  exact hK' _ _ (K _ (h.set i x) (fun g' t'' n' f' hne h' => h'.other hne _) (fun B w0 hB hb => hb.setCell hB _))
theorem run_not (P : Program) (w : World) (x : BitVec 64) : (Op.unary .xor (.int .u64 (wv x))).run P w = .ok (.int .u64 (wv (~~~ x))) w := by
  have h1 : Op.unary .xor (.int .u64 (wv x)) = pure (.int .u64 (bits .xor .u64 18446744073709551615 (wv x))) := rfl
  rw [h1, wv_not]; rfl
/-- A word's other side. -/
theorem not_word {P : Program} {w : World} {ops : Array Oper} {rest : List Oper} {o : Oper} {a : Act} {Q : Exit → Act → World → Prop} (hg : o.guard = none) {t : TypeId} {p : Operand} (hop : o.op = Op.unOp .xor t p)
    {x : BitVec 64} (hp : a.eval p = .int .u64 (wv x)) (K : wpList P ops Q rest (a.put o.dst (.int .u64 (wv (~~~ x)))) w) : wpList P ops Q (o :: rest) a w := by
  refine wpList_plain hg fun K' hK' => ?_
  have hrun := run_not P w x
  unfold Oper.wp
  simp [execOp, hop, hp, hrun, Result.andThen]
  exact hK' _ _ K
theorem At.drewN {w : World} {g n : Nat} {t : TypeId} {f : Nat → BitVec 64} (h : At w g t n f) (m : Nat) : At (w.drewN m) g t n f := h
theorem below_drewN {B : Nat} {a w : World} (h : Below B a w) (n : Nat) : Below B a (w.drewN n) := ⟨h.os, h.tape, h.output, h.size, h.block⟩
theorem At.drew {w : World} {g n : Nat} {t : TypeId} {f : Nat → BitVec 64} (h : At w g t n f) : At w.drew g t n f := h
theorem At.eq {w : World} {g n : Nat} {t : TypeId} {f f' : Nat → BitVec 64} (h : At w g t n f) (e : f = f') : At w g t n f' := e ▸ h
theorem At.congr {w : World} {g n : Nat} {t : TypeId} {f f' : Nat → BitVec 64} (h : At w g t n f) (e : ∀ i, i < n → f i = f' i) : At w g t n f' := by
  unfold At at h ⊢
  rw [h, sc_congr e]

end Go.Proofs.YtlaoikpbgbckjaaDoor

/-
  Rows of bytes.
-/
namespace Go.Proofs.YtlaoikpbgbckjaaDoor
open Go.RowKit

def bytesV (l : List UInt8) : List Value := l.map fun c => .int .u8 (c.toNat : Int)
theorem bytesV_append (a b : List UInt8) : bytesV (a ++ b) = bytesV a ++ bytesV b := by simp [bytesV]
theorem bytesV_length (a : List UInt8) : (bytesV a).length = a.length := by simp [bytesV]
theorem toNat_of {n : Nat} (h : n < 256) : (UInt8.ofNat n).toNat = n := by simp; omega
theorem bytesV_one {n : Nat} (h : n < 256) : bytesV [UInt8.ofNat n] = [.int .u8 (n : Int)] := by simp only [bytesV, List.map_cons, List.map_nil, toNat_of h]

theorem row_form {w : World} {B e sz n : Nat} {v : Value} {xs : List Value} (h : w.ownsRow B e sz v n xs) : ∃ a cap, v = .slice a n cap := by
  rcases h.2 with ⟨rfl, h0⟩ | ⟨g, cap, cur, rfl, _⟩
  · subst h0; exact ⟨_, _, rfl⟩
  · exact ⟨_, _, rfl⟩

theorem one_cell (k : IntKind) (z : Int) : ∀ u ∈ [Value.int k z], u.oneCell' = true := by
  intro u hu; simp at hu; subst hu; rfl
theorem room_for {B : Nat} {w : World} (h : B ≤ w.heap.size) (o : Obj) : B ≤ (w.alloc o).heap.size := by simp; omega

theorem cells_of_row {w : World} {B e g cap : Nat} {l : List UInt8} (h : w.ownsRow B e 1 (.slice (some ⟨g, 0, none⟩) l.length cap) l.length (bytesV l)) :
    ∀ j (hj : j < l.length), w.cell? ((⟨g, 0, none⟩ : Addr).add j) = some (.int .u8 (l[j].toNat : Int)) := fun j hj => by
  rw [Addr.add_lit, Nat.zero_add, h.cellAt j (by omega)]
  simp [bytesV, hj]

theorem info5 : (Tryd.prog.info? 5).map (fun i => (i.zero, i.size, i.bytes)) = some (some (.int .u8 0), 1, 1) := by kernel_rfl

theorem text_of_nil (w : World) : (convert 22 9 (.slice none 0 0)).run Tryd.prog w = .ok (.string ⟨#[]⟩) w := by
  rw [run_convert_bytes_string w 22 9 5 none 0 0 Tryd.underlying22 Tryd.underlying5 Tryd.underlying9]
  rfl
theorem text_of_row {w : World} {B : Nat} {v : Value} {l : List UInt8} (h : w.ownsRow B 5 1 v l.length (bytesV l)) :
    (convert 22 9 v).run Tryd.prog w = .ok (.string ⟨l.toArray⟩) w := by
  rcases h.2 with ⟨rfl, h0⟩ | ⟨g, cap, cur, rfl, hg, hh, hnc, hcp, hcs, htake⟩
  · obtain rfl : l = [] := List.length_eq_zero_iff.1 h0
    exact text_of_nil w
  · exact run_convert_bytes_back (P := Tryd.prog) w 22 9 5 ⟨g, 0, none⟩ cap l Tryd.underlying22 Tryd.underlying5 Tryd.underlying9 (cells_of_row h)

/-- A value is a row of these bytes, owned from B on. -/
def RowB (B : Nat) (w : World) (v : Value) (l : List UInt8) : Prop := w.ownsRow B 5 1 v l.length (bytesV l)

/-- What one append of a byte leaves. -/
theorem push_b {w wr w1 W : World} {B e : Nat} {v v' : Value} {pre : List UInt8} {b : UInt8} {z : Int} (hz : z = (b.toNat : Int)) (hB : B ≤ W.heap.size) (hbel : Below B w W) (hown : wr.ownsRow B e 1 v pre.length (bytesV pre))
    (hown' : w1.ownsRow B e 1 v' (pre.length + 1) (bytesV pre ++ [Value.int .u8 z])) (hgrow : W.grownBy w1 v.ownBlock) :
    w1.ownsRow B e 1 v' (pre ++ [b]).length (bytesV (pre ++ [b])) ∧ Below B w w1 := by
  refine ⟨?_, hbel.grown hgrow hB (fun k hk => (hown.lt k hk).1)⟩
  rw [bytesV_append, List.length_append]
  subst hz
  exact hown'

/-- A row of bytes as the cells of a block. -/
def bCells (l : List UInt8) : Array Value := (bytesV l).toArray
theorem bCells_size (l : List UInt8) : (bCells l).size = l.length := by simp [bCells, bytesV]
theorem bCells_at (l : List UInt8) (i : Nat) (h : i < l.length) : (bCells l)[i]? = some (.int .u8 ((l.getD i 0).toNat : Int)) := by
  simp [bCells, bytesV, List.getD_eq_getElem?_getD, h]
theorem bCells_set (l : List UInt8) (i : Nat) (b : UInt8) : (bCells l).setIfInBounds i (.int .u8 (b.toNat : Int)) = bCells (l.set i b) := by
  simp [bCells, bytesV, List.map_set]
theorem bCells_zero (n : Nat) : (Array.replicate n (Value.int .u8 0)) = bCells (List.replicate n 0) := by
  simp [bCells, bytesV]
theorem owns_cells (w : World) (l : List UInt8) (h : l.length ≤ 4611686018427387904) :
    (w.alloc (.cells (bCells l) 5)).ownsRow w.heap.size 5 1 (.slice (some ⟨w.heap.size, 0, none⟩) l.length l.length) l.length (bytesV l) := by
  have := World.ownsRow_lit (base := w.heap.size) (e := 5) (size := 1) w (bCells l) l.length (Nat.le_refl _) (by unfold maxLen; omega) (by simp [bCells_size])
  simpa [bCells] using this

/-- make([]byte, n, m). -/
theorem make_bytes (n m : Nat) (h1 : n ≤ m) (h2 : m ≤ 1073741824) (W : World) :
    (Instr.makeSlice 22 (.int .i64 (n : Int)) (.int .i64 (m : Int))).run Tryd.prog W = .ok (.slice (some ⟨W.heap.size, 0, none⟩) n m) (W.alloc (.cells (bCells (List.replicate m 0)) 5)) := by
  obtain ⟨i0, hi, hz0, hz1, hz2⟩ := info_parts info5
  have hM : madeCells (Value.int .u8 0).cells ((m : Int).toNat * i0.size) = bCells (List.replicate m 0) := by
    rw [hz1]
    have h3 := toList_madeCells_one (.int .u8 0) m
    apply Array.toList_inj.1
    simpa [bytesV, bCells, Value.cells] using h3
  have h := run_make (P := Tryd.prog) W 22 5 i0 (.int .u8 0) Tryd.underlying22 hi hz0 .i64 .i64 (n : Int) (m : Int) (by omega) (by omega) (by rw [hz2]; omega) (by omega)
  rw [hM] at h
  simpa using h

end Go.Proofs.YtlaoikpbgbckjaaDoor
