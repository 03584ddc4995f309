/-
  Texts of one's own, joined.
-/
import Derived.Test.YtkmelamfohfdkabDoorJoined10
import Derived.Test.YtkmelamfohfdkabDoorProg
import Derived.WalkKit
import Derived.WalkLawsBesides
import Derived.WalkSpells
import Derived.Deep.WholeRow
import Derived.BigRegion
import Derived.ChangeKeysEq
import Derived.Laws.CopyOwn
import Derived.Deep.QuietTactic
import Derived.BigQuiet

/-
  A round of chapter 3 as plain mathematics.
-/
namespace Go.Proofs.YtkmelamfohfdkabDoor

def upd (f : Nat → BitVec 64) (i : Nat) (v : BitVec 64) : Nat → BitVec 64 := fun j => if j = i then v else f j
def zf : Nat → BitVec 64 := fun _ => 0#64

/-- Column x. -/
def col (f : Nat → BitVec 64) (x : Nat) : BitVec 64 := f x ^^^ f (x + 5) ^^^ f (x + 10) ^^^ f (x + 15) ^^^ f (x + 20)
def both (f : Nat → BitVec 64) (x : Nat) : BitVec 64 := col f ((x + 4) % 5) ^^^ rotl (col f ((x + 1) % 5)) 1
def theta (f : Nat → BitVec 64) : Nat → BitVec 64 := fun i => f i ^^^ both f (i % 5)

/-- The program's sums: j words of the row y. -/
def colJ (f : Nat → BitVec 64) (y : Nat) (g : Nat → BitVec 64) : Nat → Nat → BitVec 64
  | 0 => g
  | x + 1 => upd (colJ f y g x) x (colJ f y g x x ^^^ f (y + x))
def colK (f : Nat → BitVec 64) : Nat → Nat → BitVec 64
  | 0 => zf
  | k + 1 => colJ f (5 * k) (colK f k) 5
theorem cases5 {i : Nat} (h : i < 5) : i = 0 ∨ i = 1 ∨ i = 2 ∨ i = 3 ∨ i = 4 := by omega
theorem cases25 {i : Nat} (h : i < 25) : i = 0 ∨ i = 1 ∨ i = 2 ∨ i = 3 ∨ i = 4 ∨ i = 5 ∨ i = 6 ∨ i = 7 ∨ i = 8 ∨ i = 9 ∨ i = 10 ∨ i = 11 ∨ i = 12 ∨ i = 13 ∨ i = 14 ∨ i = 15 ∨ i = 16 ∨ i = 17 ∨ i = 18 ∨ i = 19 ∨ i = 20 ∨ i = 21 ∨ i = 22 ∨ i = 23 ∨ i = 24 := by omega
theorem colK_all (f : Nat → BitVec 64) (x : Nat) (h : x < 5) : colK f 5 x = col f x := by
  have e : ∀ a b c d e : BitVec 64, 0#64 ^^^ a ^^^ b ^^^ c ^^^ d ^^^ e = a ^^^ b ^^^ c ^^^ d ^^^ e := fun a b c d e => by rw [BitVec.zero_xor]
  unfold col
  rcases cases5 h with rfl | rfl | rfl | rfl | rfl <;> exact e _ _ _ _ _

/-- Both put to the words of column x: j rows. -/
def thJ (d : BitVec 64) (x : Nat) (g : Nat → BitVec 64) : Nat → Nat → BitVec 64
  | 0 => g
  | y + 1 => upd (thJ d x g y) (5 * y + x) (thJ d x g y (5 * y + x) ^^^ d)
def thK (c : Nat → BitVec 64) (f : Nat → BitVec 64) : Nat → Nat → BitVec 64
  | 0 => f
  | x + 1 => thJ (c ((x + 4) % 5) ^^^ rotl (c ((x + 1) % 5)) 1) x (thK c f x) 5
theorem thK_all (f : Nat → BitVec 64) (i : Nat) (h : i < 25) : thK (col f) f 5 i = theta f i := by
  rcases cases25 h with rfl | rfl | rfl | rfl | rfl | rfl | rfl | rfl | rfl | rfl | rfl | rfl | rfl | rfl | rfl | rfl | rfl | rfl | rfl | rfl | rfl | rfl | rfl | rfl | rfl <;> rfl
theorem thK_congr {c c' : Nat → BitVec 64} (h : ∀ x, x < 5 → c x = c' x) (f : Nat → BitVec 64) : ∀ k, thK c f k = thK c' f k
  | 0 => rfl
  | k + 1 => by rw [thK, thK, thK_congr h f k, h _ (Nat.mod_lt _ (by decide)), h _ (Nat.mod_lt _ (by decide))]
theorem theta_none (f : Nat → BitVec 64) (h : ∀ x, x < 5 → col f x = 0#64) (i : Nat) : theta f i = f i := by
  unfold theta both
  rw [h _ (Nat.mod_lt _ (by decide)), h _ (Nat.mod_lt _ (by decide)), rotl_of_zero]
  simp

/-- chiW. -/
def chiW (f : Nat → BitVec 64) : Nat → BitVec 64 := fun i => f i ^^^ (~~~ f ((i % 5 + 1) % 5 + 5 * (i / 5)) &&& f ((i % 5 + 2) % 5 + 5 * (i / 5)))
def chiRow (g : Nat → BitVec 64) (y : Nat) : Nat → BitVec 64 :=
  upd (upd (upd (upd (upd g y (g y ^^^ (~~~ g (y + 1) &&& g (y + 2)))) (y + 1) (g (y + 1) ^^^ (~~~ g (y + 2) &&& g (y + 3)))) (y + 2) (g (y + 2) ^^^ (~~~ g (y + 3) &&& g (y + 4)))) (y + 3) (g (y + 3) ^^^ (~~~ g (y + 4) &&& g y))) (y + 4) (g (y + 4) ^^^ (~~~ g y &&& g (y + 1)))
def chiK (f : Nat → BitVec 64) : Nat → Nat → BitVec 64
  | 0 => f
  | k + 1 => chiRow (chiK f k) (5 * k)
theorem chiK_all (f : Nat → BitVec 64) (i : Nat) (h : i < 25) : chiK f 5 i = chiW f i := by
  rcases cases25 h with rfl | rfl | rfl | rfl | rfl | rfl | rfl | rfl | rfl | rfl | rfl | rfl | rfl | rfl | rfl | rfl | rfl | rfl | rfl | rfl | rfl | rfl | rfl | rfl | rfl <;> rfl

/-- The walk of rho and pi: where it is behind k steps, how far it turns there. -/
def placeN : Nat → Nat × Nat
  | 0 => (1, 0)
  | k + 1 => ((placeN k).2, (2 * (placeN k).1 + 3 * (placeN k).2) % 5)
def idxN (k : Nat) : Nat := (placeN k).1 + 5 * (placeN k).2
def tri : Nat → Nat
  | 0 => 0
  | k + 1 => tri k + (k + 1)
def rpK (f : Nat → BitVec 64) : Nat → Nat → BitVec 64
  | 0 => f
  | k + 1 => upd (rpK f k) (idxN (k + 1)) (rotl (f (idxN k)) (tri (k + 1) % 64))
def rhoPi (f : Nat → BitVec 64) : Nat → BitVec 64 := rpK f 24
theorem placeN_lt : ∀ k, (placeN k).1 < 5 ∧ (placeN k).2 < 5
  | 0 => by decide
  | k + 1 => ⟨(placeN_lt k).2, Nat.mod_lt _ (by decide)⟩
theorem idxN_lt (k : Nat) : idxN k < 25 := by have := placeN_lt k; unfold idxN; omega
theorem tri_le : ∀ k, k ≤ 24 → tri k ≤ 300 := by decide
theorem placeN_end : ∀ k, k < 24 → (placeN (k + 1) = (1, 0) ↔ k = 23) := by decide

/-- What iota puts to the first word. -/
def rcL : List Nat := [0x0000000000000001, 0x0000000000008082, 0x800000000000808a, 0x8000000080008000, 0x000000000000808b, 0x0000000080000001, 0x8000000080008081, 0x8000000000008009, 0x000000000000008a, 0x0000000000000088, 0x0000000080008009, 0x000000008000000a, 0x000000008000808b, 0x800000000000008b, 0x8000000000008089, 0x8000000000008003, 0x8000000000008002, 0x8000000000000080, 0x000000000000800a, 0x800000008000000a, 0x8000000080008081, 0x8000000000008080, 0x0000000080000001, 0x8000000080008008]
def rcW (r : Nat) : BitVec 64 := BitVec.ofNat 64 (rcL.getD r 0)
def iota (g : Nat → BitVec 64) (c : BitVec 64) : Nat → BitVec 64 := upd g 0 (g 0 ^^^ c)
def roundF (f : Nat → BitVec 64) (r : Nat) : Nat → BitVec 64 := iota (chiW (rhoPi (theta f))) (rcW r)
def allK (f : Nat → BitVec 64) : Nat → Nat → BitVec 64
  | 0 => f
  | k + 1 => roundF (allK f k) k
def allF (f : Nat → BitVec 64) : Nat → BitVec 64 := allK f 24

end Go.Proofs.YtkmelamfohfdkabDoor

/-
  Words put to a state, a state as a text: plain mathematics.
-/
namespace Go.Proofs.YtkmelamfohfdkabDoor

/-- The first k words of a text put to a state. -/
def mixK (f : Nat → BitVec 64) (l : List UInt8) : Nat → Nat → BitVec 64
  | 0 => f
  | k + 1 => upd (mixK f l k) k (mixK f l k k ^^^ wordAt l (8 * k))
/-- The first k words of a state as bytes. -/
def textL (f : Nat → BitVec 64) : Nat → List UInt8
  | 0 => []
  | k + 1 => textL f k ++ bytesOf (f k) 8
theorem textL_length (f : Nat → BitVec 64) (k : Nat) : (textL f k).length = 8 * k := by
  induction k with
  | zero => rfl
  | succ k ih => rw [textL, List.length_append, ih, bytesOf_length]; omega
theorem textL_congr {f g : Nat → BitVec 64} (k : Nat) (h : ∀ i, i < k → f i = g i) : textL f k = textL g k := by
  induction k with
  | zero => rfl
  | succ k ih => rw [textL, textL, ih (fun i hi => h i (by omega)), h k (by omega)]
theorem textL_getD (f : Nat → BitVec 64) (k i : Nat) (hi : i < 8 * k) : (textL f k).getD i 0 = byteOf (f (i / 8)) (i % 8) := by
  induction k with
  | zero => omega
  | succ k ih =>
    rw [textL, List.getD_eq_getElem?_getD]
    by_cases h : i < 8 * k
    · rw [List.getElem?_append_left (by rw [textL_length]; exact h), ← List.getD_eq_getElem?_getD, ih h]
    · rw [List.getElem?_append_right (by rw [textL_length]; omega), textL_length, ← List.getD_eq_getElem?_getD, bytesOf_getD _ _ _ (by omega)]
      rw [show i / 8 = k by omega, show i % 8 = i - 8 * k by omega]
theorem wordAt_drop (l : List UInt8) (a : Nat) : wordAt (l.drop a) 0 = wordAt l a := by
  apply BitVec.eq_of_getLsbD_eq
  intro j hj
  rw [wordAt_bit _ _ _ hj, wordAt_bit _ _ _ hj]
  simp [List.getD_eq_getElem?_getD, List.getElem?_drop]
theorem mixK_at (f : Nat → BitVec 64) (l : List UInt8) (k i : Nat) : mixK f l k i = if i < k then f i ^^^ wordAt l (8 * i) else f i := by
  induction k with
  | zero => simp [mixK]
  | succ k ih =>
    rw [mixK]
    unfold upd
    by_cases h : i = k
    · subst h; rw [if_pos rfl, ih, if_neg (by omega), if_pos (by omega)]
    · rw [if_neg h, ih]
      by_cases h2 : i < k
      · rw [if_pos h2, if_pos (by omega)]
      · rw [if_neg h2, if_neg (by omega)]
/-- The words of a text. -/
def loadF (l : List UInt8) : Nat → BitVec 64 := fun i => wordAt l (8 * i)
theorem mixK_zero (l : List UInt8) (i : Nat) (h : i < 25) : mixK zf l 25 i = loadF l i := by
  rw [mixK_at, if_pos h]; simp [zf, loadF]
theorem loadF_textL (f : Nat → BitVec 64) (k i : Nat) (h : i < k) : loadF (textL f k) i = f i := by
  apply BitVec.eq_of_getLsbD_eq
  intro j hj
  rw [loadF, wordAt_bit _ _ _ hj, textL_getD _ _ _ (by omega), byteOf_bit, show (8 * i + j / 8) / 8 = i by omega, show (8 * i + j / 8) % 8 = j / 8 by omega]
  rw [show 8 * (j / 8) + j % 8 = j by omega]
  simp; omega
theorem congr_upd {f g : Nat → BitVec 64} {n i : Nat} {v v' : BitVec 64} (h : ∀ j, j < n → f j = g j) (hv : v = v') : ∀ j, j < n → upd f i v j = upd g i v' j := by
  intro j hj
  unfold upd
  by_cases e : j = i
  · rw [if_pos e, if_pos e, hv]
  · rw [if_neg e, if_neg e, h j hj]
theorem roundF_congr {f g : Nat → BitVec 64} (h : ∀ i, i < 25 → f i = g i) (r : Nat) : ∀ i, i < 25 → roundF f r i = roundF g r i := by
  have ht : ∀ i, i < 25 → theta f i = theta g i := fun i hi => by
    unfold theta both col
    rw [h i hi, h ((i % 5 + 4) % 5) (by omega), h ((i % 5 + 4) % 5 + 5) (by omega), h ((i % 5 + 4) % 5 + 10) (by omega), h ((i % 5 + 4) % 5 + 15) (by omega), h ((i % 5 + 4) % 5 + 20) (by omega),
      h ((i % 5 + 1) % 5) (by omega), h ((i % 5 + 1) % 5 + 5) (by omega), h ((i % 5 + 1) % 5 + 10) (by omega), h ((i % 5 + 1) % 5 + 15) (by omega), h ((i % 5 + 1) % 5 + 20) (by omega)]
  have hp : ∀ k i, i < 25 → rpK (theta f) k i = rpK (theta g) k i := fun k => by
    induction k with
    | zero => exact ht
    | succ k ih => exact congr_upd ih (by rw [ht _ (idxN_lt k)])
  have hr : ∀ i, i < 25 → rhoPi (theta f) i = rhoPi (theta g) i := hp 24
  have hc : ∀ i, i < 25 → chiW (rhoPi (theta f)) i = chiW (rhoPi (theta g)) i := fun i hi => by
    unfold chiW
    rw [hr i hi, hr _ (by omega), hr ((i % 5 + 2) % 5 + 5 * (i / 5)) (by omega)]
  exact congr_upd hc (by rw [hc 0 (by omega)])
theorem allK_congr {f g : Nat → BitVec 64} (h : ∀ i, i < 25 → f i = g i) (k : Nat) : ∀ i, i < 25 → allK f k i = allK g k i := by
  induction k with
  | zero => exact h
  | succ k ih => exact roundF_congr ih k

end Go.Proofs.YtkmelamfohfdkabDoor

/-
  Arrays of words in blocks.
-/
namespace Go.Proofs.YtkmelamfohfdkabDoor
open Go.RowKit

theorem infoS : (Tryd.prog.info? 78).map (·.size) = some 25 := by kernel_rfl
theorem infoCw : (Tryd.prog.info? 86).map (·.size) = some 5 := by kernel_rfl

/-- n words as cells. -/
def sc (f : Nat → BitVec 64) (n : Nat) : Array Value := ((List.range n).map fun i => Value.int .u64 (wv (f i))).toArray

theorem sc_size (f : Nat → BitVec 64) (n : Nat) : (sc f n).size = n := by simp [sc]
theorem sc_at (f : Nat → BitVec 64) (n i : Nat) (h : i < n) : (sc f n)[i]? = some (.int .u64 (wv (f i))) := by simp [sc, h]
theorem sc_one (f : Nat → BitVec 64) (n : Nat) : (sc f n).all (·.oneCell') = true := by
  rw [Array.all_eq_true_iff_forall_mem]
  intro x hx
  simp [sc] at hx
  obtain ⟨i, _, rfl⟩ := hx
  rfl
theorem sc_congr {f g : Nat → BitVec 64} {n : Nat} (h : ∀ i, i < n → f i = g i) : sc f n = sc g n := by
  unfold sc
  congr 1
  apply List.map_congr_left
  intro i hi
  rw [h i (by simpa using hi)]
theorem sc_set (f : Nat → BitVec 64) (n i : Nat) (v : BitVec 64) : (sc f n).setIfInBounds i (.int .u64 (wv v)) = sc (upd f i v) n := by
  apply Array.ext_getElem?
  intro j
  rw [Array.getElem?_setIfInBounds]
  by_cases hj : j < n
  · rw [sc_at (upd f i v) _ _ hj, sc_at f _ _ hj]
    by_cases e : i = j
    · subst e; simp [sc_size, hj, upd]
    · have e' : ¬ j = i := fun x => e x.symm
      simp [e, upd, e']
  · have h1 : (sc (upd f i v) n)[j]? = none := Array.getElem?_eq_none (by rw [sc_size]; omega)
    have h2 : (sc f n)[j]? = none := Array.getElem?_eq_none (by rw [sc_size]; omega)
    rw [h1, h2]
    by_cases e : i = j
    · subst e; simp [sc_size, hj]
    · simp [e]

/-- Block g holds these n words. -/
def At (w : World) (g : Nat) (t : TypeId) (n : Nat) (f : Nat → BitVec 64) : Prop := w.heap[g]? = some (.cells (sc f n) t (0, 0))

theorem At.lt {w : World} {g n : Nat} {t : TypeId} {f : Nat → BitVec 64} (h : At w g t n f) : g < w.heap.size := (Array.getElem?_eq_some_iff.1 h).1
theorem At.cell {w : World} {g n : Nat} {t : TypeId} {f : Nat → BitVec 64} (h : At w g t n f) (i : Nat) (hi : i < n) : w.cell? ⟨g, i, none⟩ = some (.int .u64 (wv (f i))) := by
  rw [cell_of_row _ _ i _ _ _ h, sc_at _ _ _ hi]
theorem At.free {w : World} {g n : Nat} {t : TypeId} {f : Nat → BitVec 64} (h : At w g t n f) (i : Nat) : w.frozen? ⟨g, i, none⟩ = false := by
  unfold World.frozen?
  rw [h]
  simp
theorem At.new (w : World) (t : TypeId) (n : Nat) (f : Nat → BitVec 64) : At (w.alloc (.cells (sc f n) t)) w.heap.size t n f := heap_alloc_last w _
theorem At.new' {w : World} {t : TypeId} {n g : Nat} {f : Nat → BitVec 64} {c : Array Value} (hg : g = w.heap.size) (hc : c = sc f n) : At (w.alloc (.cells c t)) g t n f := by
  subst hg hc; exact At.new w t n f
theorem size_alloc (w : World) (o : Obj) : (w.alloc o).heap.size = w.heap.size + 1 := by simp
theorem At.alloc {w : World} {g n : Nat} {t : TypeId} {f : Nat → BitVec 64} (h : At w g t n f) (o : Obj) : At (w.alloc o) g t n f := by
  have := h.lt
  show (w.heap.push o)[g]? = _
  rw [Array.getElem?_push, if_neg (by omega)]
  exact h
theorem At.set {w : World} {g n : Nat} {t : TypeId} {f : Nat → BitVec 64} (h : At w g t n f) (i : Nat) (v : BitVec 64) : At (w.setCell ⟨g, i, none⟩ (.int .u64 (wv v))) g t n (upd f i v) := by
  have := h
  unfold At at this ⊢
  simp only [World.setCell]
  rw [Array.getElem?_modify, if_pos rfl, this, ← sc_set]
  rfl
theorem At.other {w : World} {g g' n i : Nat} {t : TypeId} {f : Nat → BitVec 64} (h : At w g t n f) (hne : g' ≠ g) (v : Value) : At (w.setCell ⟨g', i, none⟩ v) g t n f := by
  unfold At at h ⊢
  simp only [World.setCell]
  rw [Array.getElem?_modify, if_neg hne, h]
theorem At.row {w : World} {g n : Nat} {t : TypeId} {f : Nat → BitVec 64} (h : At w g t n f) (f' : Nat → BitVec 64) : At (w.setRow g (sc f' n)) g t n f' := by
  unfold At at h ⊢
  simp only [World.setRow]
  rw [Array.getElem?_modify, if_pos rfl, h]
  rfl
theorem At.rowOther {w : World} {g g' n : Nat} {t : TypeId} {f : Nat → BitVec 64} (h : At w g t n f) (hne : g' ≠ g) (cs : Array Value) : At (w.setRow g' cs) g t n f := by
  unfold At at h ⊢
  simp only [World.setRow]
  rw [Array.getElem?_modify, if_neg hne, h]
theorem At.on {w w1 : World} {c g n : Nat} {t : TypeId} {f : Nat → BitVec 64} (h : At w g t n f) (hb : Below c w w1) (hc : g < c) : At w1 g t n f := (hb.block g hc).trans h
theorem At.load {P : Program} {w : World} {g n : Nat} {t : TypeId} {f : Nat → BitVec 64} (h : At w g t n f) : (loadCellsFrom ⟨g, 0, none⟩ 0 n #[]).run P w = .ok (sc f n) w := by
  have := run_loadCells_list (P := P) w ⟨g, 0, none⟩ (sc f n).toList (fun j v hv => by
    have hadd : (⟨g, 0, none⟩ : Addr).add j = ⟨g, j, none⟩ := by unfold Addr.add; split <;> simp_all
    rw [hadd, cell_of_row _ _ j _ _ _ h]
    simpa using hv)
  simpa [loadCells, sc_size] using this
theorem At.store {P : Program} {w : World} {g n : Nat} {t ty : TypeId} {f : Nat → BitVec 64} (h : At w g t n f) (hi : (P.info? ty).map (·.size) = some n) (f' : Nat → BitVec 64) :
    (storeCells ⟨g, 0, none⟩ (sc f' n).toList 0).run P w = .ok () (w.setRow g (sc f' n)) := by
  have := run_storeVar_row (P := P) w g t ty (sc f n) (sc f' n) h (by rw [sc_size]; exact hi) (by rw [sc_size, sc_size]) (sc_one _ _)
  cases hq : P.info? ty with
  | none => simp [hq] at hi
  | some i =>
    have hs : n = i.size := by simp [hq] at hi; omega
    simpa [storeVar, sizeOf, typeInfo, hq, Value.cells, sc_size, hs] using this
/-- A whole array out of its block. -/
theorem load_at {P : Program} {w : World} {ops : Array Oper} {rest : List Oper} {o : Oper} {a : Act} {Q : Exit → Act → World → Prop} (hg : o.guard = none) {t : TypeId} {p : Operand} (hop : o.op = Op.load t p)
    {g n : Nat} {t' e : TypeId} {f : Nat → BitVec 64} (hp : a.eval p = .pointer (some ⟨g, 0, none⟩)) (h : At w g t' n f) (hu : P.underlying t = some (.array n e)) (hi : (P.info? t).map (·.size) = some n)
    (K : wpList P ops Q rest (a.put o.dst (.agg (sc f n))) w) : wpList P ops Q (o :: rest) a w := by
  refine wpList_plain hg fun K' hK' => ?_
  have hrun : (Instr.loadAt t (.pointer (some ⟨g, 0, none⟩))).run P w = .ok (.agg (sc f n)) w := by
    simp only [Instr.loadAt, Instr.sureAddr, Sem.run_bind, Sem.run_pure, Result.andThen]
    exact run_loadVar_row w g t' t (sc f n) (0, 0) _ h hu rfl (by rw [sc_size]; exact hi)
  unfold Oper.wp
  simp [execOp, hop, hp, hrun, Result.andThen]
  exact hK' _ _ K
/-- A whole array into its block. -/
theorem store_at {P : Program} {w : World} {ops : Array Oper} {rest : List Oper} {o : Oper} {a : Act} {Q : Exit → Act → World → Prop} (hg : o.guard = none) {t : TypeId} {p v : Operand} (hop : o.op = Op.store t p v)
    {g n : Nat} {t' : TypeId} {f f' : Nat → BitVec 64} (hp : a.eval p = .pointer (some ⟨g, 0, none⟩)) (hv : a.eval v = .agg (sc f' n)) (h : At w g t' n f) (hi : (P.info? t).map (·.size) = some n)
    (K : wpList P ops Q rest (a.put o.dst undef) (w.setRow g (sc f' n))) : wpList P ops Q (o :: rest) a w := by
  refine wpList_plain hg fun K' hK' => ?_
  have hrun : (Instr.storeAt t (.pointer (some ⟨g, 0, none⟩)) (.agg (sc f' n))).run P w = .ok () (w.setRow g (sc f' n)) := by
    simp only [Instr.storeAt, Instr.sureAddr, Sem.run_bind, Sem.run_pure, Result.andThen]
    exact run_storeVar_row w g t' t (sc f n) (sc f' n) h (by rw [sc_size]; exact hi) (by rw [sc_size, sc_size]) (sc_one _ _)
  unfold Oper.wp
  simp [execOp, hop, hp, hv, hrun, Result.andThen]
  exact hK' _ _ K
/-- A result that lives in a block. -/
theorem result_at {P : Program} {fn : Func} {p : Tmp} {ty t e : TypeId} (h : fn.results = #[.cell p ty]) {tmps : Array Value} {w : World} {g n : Nat} {f : Nat → BitVec 64} (hp : tmps.getD p undef = .pointer (some ⟨g, 0, none⟩))
    (hA : At w g t n f) (hu : P.underlying ty = some (.array n e)) (hi : (P.info? ty).map (·.size) = some n) : (results fn tmps).run P w = .ok (.agg (sc f n)) w := by
  have hl := run_loadVar_row w g t ty (sc f n) (0, 0) _ hA hu rfl (by rw [sc_size]; exact hi)
  have hp' : tmps[p]?.getD undef = .pointer (some ⟨g, 0, none⟩) := by simpa using hp
  simp [results, h, hp', asAddr, hl]
theorem below_row {B g : Nat} {w0 w : World} (hb : Below B w0 w) (hBg : B ≤ g) (cs : Array Value) : Below B w0 (w.setRow g cs) :=
  below_setRow hb hBg cs
/-- The same, the world behind it under a new name. -/
theorem store_to {P : Program} {w : World} {ops : Array Oper} {rest : List Oper} {o : Oper} {a : Act} {Q : Exit → Act → World → Prop} (hg : o.guard = none) {t : TypeId} {p v : Operand} (hop : o.op = Op.store t p v)
    {g n : Nat} {t' : TypeId} {f f' : Nat → BitVec 64} (hp : a.eval p = .pointer (some ⟨g, 0, none⟩)) (hv : a.eval v = .agg (sc f' n)) (h : At w g t' n f) (hi : (P.info? t).map (·.size) = some n)
    (K : ∀ w', At w' g t' n f' → (∀ g', g ≠ g' → w'.heap[g']? = w.heap[g']?) → w'.heap.size = w.heap.size → (∀ B w0, B ≤ g → Below B w0 w → Below B w0 w') → wpList P ops Q rest (a.put o.dst undef) w') : wpList P ops Q (o :: rest) a w :=
  store_at hg hop hp hv h hi (K _ (h.row f') (fun g' hne => by simp only [World.setRow]; rw [Array.getElem?_modify, if_neg hne]) (by simp [World.setRow]) (fun _ _ hB hb => below_setRow hb hB _))
/-- One word into its block. -/
theorem store_cell {w : World} {ops : Array Oper} {rest : List Oper} {o : Oper} {a : Act} {Q : Exit → Act → World → Prop} (hg : o.guard = none) {p v : Operand} (hop : o.op = Op.store 55 p v)
    {g n i : Nat} {t' : TypeId} {f : Nat → BitVec 64} {x : BitVec 64} (hp : a.eval p = .pointer (some ⟨g, i, none⟩)) (hv : a.eval v = .int .u64 (wv x)) (h : At w g t' n f) (hi : i < n)
    (K : ∀ w', At w' g t' n (upd f i x) → (∀ g' t'' n' f', g ≠ g' → At w g' t'' n' f' → At w' g' t'' n' f') → (∀ B w0, B ≤ g → Below B w0 w → Below B w0 w') → wpList Tryd.prog ops Q rest (a.put o.dst undef) w') : wpList Tryd.prog ops Q (o :: rest) a w := by
  refine wpList_plain hg fun K' hK' => ?_
  have hc := h.cell i hi
  have hf := h.free i
  have hrun : (Instr.storeAt 55 (.pointer (some ⟨g, i, none⟩)) (.int .u64 (wv x))).run Tryd.prog w = .ok () (w.setCell ⟨g, i, none⟩ (.int .u64 (wv x))) := by
    go_simp
  unfold Oper.wp
  simp [execOp, hop, hp, hv, hrun, Result.andThen]
  exact hK' _ _ (K _ (h.set i x) (fun g' t'' n' f' hne h' => h'.other hne _) (fun B w0 hB hb => hb.setCell hB _))
theorem run_not (P : Program) (w : World) (x : BitVec 64) : (Op.unary .xor (.int .u64 (wv x))).run P w = .ok (.int .u64 (wv (~~~ x))) w := by
  have h1 : Op.unary .xor (.int .u64 (wv x)) = pure (.int .u64 (bits .xor .u64 18446744073709551615 (wv x))) := rfl
  rw [h1, wv_not]; rfl
/-- A word's other side. -/
theorem not_word {P : Program} {w : World} {ops : Array Oper} {rest : List Oper} {o : Oper} {a : Act} {Q : Exit → Act → World → Prop} (hg : o.guard = none) {t : TypeId} {p : Operand} (hop : o.op = Op.unOp .xor t p)
    {x : BitVec 64} (hp : a.eval p = .int .u64 (wv x)) (K : wpList P ops Q rest (a.put o.dst (.int .u64 (wv (~~~ x)))) w) : wpList P ops Q (o :: rest) a w := by
  refine wpList_plain hg fun K' hK' => ?_
  have hrun := run_not P w x
  unfold Oper.wp
  simp [execOp, hop, hp, hrun, Result.andThen]
  exact hK' _ _ K
theorem At.drewN {w : World} {g n : Nat} {t : TypeId} {f : Nat → BitVec 64} (h : At w g t n f) (m : Nat) : At (w.drewN m) g t n f := h
theorem below_drewN {B : Nat} {a w : World} (h : Below B a w) (n : Nat) : Below B a (w.drewN n) := ⟨h.os, h.tape, h.output, h.size, h.block⟩
theorem At.drew {w : World} {g n : Nat} {t : TypeId} {f : Nat → BitVec 64} (h : At w g t n f) : At w.drew g t n f := h
theorem At.eq {w : World} {g n : Nat} {t : TypeId} {f f' : Nat → BitVec 64} (h : At w g t n f) (e : f = f') : At w g t n f' := e ▸ h
theorem At.congr {w : World} {g n : Nat} {t : TypeId} {f f' : Nat → BitVec 64} (h : At w g t n f) (e : ∀ i, i < n → f i = f' i) : At w g t n f' := by
  unfold At at h ⊢
  rw [h, sc_congr e]

end Go.Proofs.YtkmelamfohfdkabDoor

/-
  Rows of bytes.
-/
namespace Go.Proofs.YtkmelamfohfdkabDoor
open Go.RowKit

def bytesV (l : List UInt8) : List Value := l.map fun c => .int .u8 (c.toNat : Int)
theorem bytesV_append (a b : List UInt8) : bytesV (a ++ b) = bytesV a ++ bytesV b := by simp [bytesV]
theorem bytesV_length (a : List UInt8) : (bytesV a).length = a.length := by simp [bytesV]
theorem toNat_of {n : Nat} (h : n < 256) : (UInt8.ofNat n).toNat = n := by simp; omega
theorem bytesV_one {n : Nat} (h : n < 256) : bytesV [UInt8.ofNat n] = [.int .u8 (n : Int)] := by simp only [bytesV, List.map_cons, List.map_nil, toNat_of h]

theorem row_form {w : World} {B e sz n : Nat} {v : Value} {xs : List Value} (h : w.ownsRow B e sz v n xs) : ∃ a cap, v = .slice a n cap := by
  rcases h.2 with ⟨rfl, h0⟩ | ⟨g, cap, cur, rfl, _⟩
  · subst h0; exact ⟨_, _, rfl⟩
  · exact ⟨_, _, rfl⟩

theorem one_cell (k : IntKind) (z : Int) : ∀ u ∈ [Value.int k z], u.oneCell' = true := by
  intro u hu; simp at hu; subst hu; rfl
theorem room_for {B : Nat} {w : World} (h : B ≤ w.heap.size) (o : Obj) : B ≤ (w.alloc o).heap.size := by simp; omega

theorem cells_of_row {w : World} {B e g cap : Nat} {l : List UInt8} (h : w.ownsRow B e 1 (.slice (some ⟨g, 0, none⟩) l.length cap) l.length (bytesV l)) :
    ∀ j (hj : j < l.length), w.cell? ((⟨g, 0, none⟩ : Addr).add j) = some (.int .u8 (l[j].toNat : Int)) := fun j hj => by
  rw [Addr.add_lit, Nat.zero_add, h.cellAt j (by omega)]
  simp [bytesV, hj]

theorem info5 : (Tryd.prog.info? 5).map (fun i => (i.zero, i.size, i.bytes)) = some (some (.int .u8 0), 1, 1) := by kernel_rfl

theorem text_of_nil (w : World) : (convert 45 9 (.slice none 0 0)).run Tryd.prog w = .ok (.string ⟨#[]⟩) w := by
  rw [run_convert_bytes_string w 45 9 5 none 0 0 Tryd.underlying45 Tryd.underlying5 Tryd.underlying9]
  rfl
theorem text_of_row {w : World} {B : Nat} {v : Value} {l : List UInt8} (h : w.ownsRow B 5 1 v l.length (bytesV l)) :
    (convert 45 9 v).run Tryd.prog w = .ok (.string ⟨l.toArray⟩) w := by
  rcases h.2 with ⟨rfl, h0⟩ | ⟨g, cap, cur, rfl, hg, hh, hnc, hcp, hcs, htake⟩
  · obtain rfl : l = [] := List.length_eq_zero_iff.1 h0
    exact text_of_nil w
  · exact run_convert_bytes_back (P := Tryd.prog) w 45 9 5 ⟨g, 0, none⟩ cap l Tryd.underlying45 Tryd.underlying5 Tryd.underlying9 (cells_of_row h)

/-- A value is a row of these bytes, owned from B on. -/
def RowB (B : Nat) (w : World) (v : Value) (l : List UInt8) : Prop := w.ownsRow B 5 1 v l.length (bytesV l)

/-- What one append of a byte leaves. -/
theorem push_b {w wr w1 W : World} {B e : Nat} {v v' : Value} {pre : List UInt8} {b : UInt8} {z : Int} (hz : z = (b.toNat : Int)) (hB : B ≤ W.heap.size) (hbel : Below B w W) (hown : wr.ownsRow B e 1 v pre.length (bytesV pre))
    (hown' : w1.ownsRow B e 1 v' (pre.length + 1) (bytesV pre ++ [Value.int .u8 z])) (hgrow : W.grownBy w1 v.ownBlock) :
    w1.ownsRow B e 1 v' (pre ++ [b]).length (bytesV (pre ++ [b])) ∧ Below B w w1 := by
  refine ⟨?_, hbel.grown hgrow hB (fun k hk => (hown.lt k hk).1)⟩
  rw [bytesV_append, List.length_append]
  subst hz
  exact hown'

/-- A row of bytes as the cells of a block. -/
def bCells (l : List UInt8) : Array Value := (bytesV l).toArray
theorem bCells_size (l : List UInt8) : (bCells l).size = l.length := by simp [bCells, bytesV]
theorem bCells_at (l : List UInt8) (i : Nat) (h : i < l.length) : (bCells l)[i]? = some (.int .u8 ((l.getD i 0).toNat : Int)) := by
  simp [bCells, bytesV, List.getD_eq_getElem?_getD, h]
theorem bCells_set (l : List UInt8) (i : Nat) (b : UInt8) : (bCells l).setIfInBounds i (.int .u8 (b.toNat : Int)) = bCells (l.set i b) := by
  simp [bCells, bytesV, List.map_set]
theorem bCells_zero (n : Nat) : (Array.replicate n (Value.int .u8 0)) = bCells (List.replicate n 0) := by
  simp [bCells, bytesV]
theorem owns_cells (w : World) (l : List UInt8) (h : l.length ≤ 4611686018427387904) :
    (w.alloc (.cells (bCells l) 5)).ownsRow w.heap.size 5 1 (.slice (some ⟨w.heap.size, 0, none⟩) l.length l.length) l.length (bytesV l) := by
  have := World.ownsRow_lit (base := w.heap.size) (e := 5) (size := 1) w (bCells l) l.length (Nat.le_refl _) (by unfold maxLen; omega) (by simp [bCells_size])
  simpa [bCells] using this

/-- make([]byte, n, m). -/
theorem make_bytes (n m : Nat) (h1 : n ≤ m) (h2 : m ≤ 1073741824) (W : World) :
    (Instr.makeSlice 45 (.int .i64 (n : Int)) (.int .i64 (m : Int))).run Tryd.prog W = .ok (.slice (some ⟨W.heap.size, 0, none⟩) n m) (W.alloc (.cells (bCells (List.replicate m 0)) 5)) := by
  obtain ⟨i0, hi, hz0, hz1, hz2⟩ := info_parts info5
  have hM : madeCells (Value.int .u8 0).cells ((m : Int).toNat * i0.size) = bCells (List.replicate m 0) := by
    rw [hz1]
    have h3 := toList_madeCells_one (.int .u8 0) m
    apply Array.toList_inj.1
    simpa [bytesV, bCells, Value.cells] using h3
  have h := run_make (P := Tryd.prog) W 45 5 i0 (.int .u8 0) Tryd.underlying45 hi hz0 .i64 .i64 (n : Int) (m : Int) (by omega) (by omega) (by rw [hz2]; omega) (by omega)
  rw [hM] at h
  simpa using h

end Go.Proofs.YtkmelamfohfdkabDoor
