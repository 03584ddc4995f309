/-
  Texts of one's own, joined.
-/
import Derived.Test.YtkmelamfohfdkabDoorJoined48
import Derived.Test.YtkmelamfohfdkabDoorJoined20
import Derived.Test.YtkmelamfohfdkabDoorJoined47
import Derived.OpenShut
import Derived.Test.YtkmelamfohfdkabDoorJoined15

/-
  The walk of the program's ReadPoint.
  (-DROP-: what the seat lacks is left out.)
-/
namespace Go.Proofs.YtkmelamfohfdkabDoor
open Go.RowKit

/-- A text of three bytes that is a point's: it is read so. -/
theorem rd_hit {t : ByteArray} {P : Pt} (hs : t.size = 3) (h : ptText P = t) : rdPt t = (P, true) := by
  by_cases hp : pOkB P = true
  · rw [← h]; exact rdPt_back (pokB.1 hp)
  · exfalso
    have e : ptText P = ⟨#[]⟩ := by
      unfold ptText ptBytes
      rw [if_neg hp]
    rw [← h, e] at hs
    cases hs

/-- The three points that a text can be of. -/
def cand (x v : Int) : Nat → Pt
  | 0 => (x, v, false)
  | 1 => (x, fpSub 0 v, false)
  | _ => pZ

theorem rd_miss {a b c : UInt8} {x : Int} (hx : (a.toNat : Int) * 256 + b.toNat - 1 = x) (h : ∀ j, j < 3 → ptText (cand x (rootV (rhs (fp x))) j) ≠ ⟨#[a, b, c]⟩) : rdPt ⟨#[a, b, c]⟩ = ((0, 0, false), false) := by
  have h0 : ptText (x, rootV (rhs (fp x)), false) ≠ ⟨#[a, b, c]⟩ := h 0 (by decide)
  have h1 : ptText (x, fpSub 0 (rootV (rhs (fp x))), false) ≠ ⟨#[a, b, c]⟩ := h 1 (by decide)
  have h2 : ptText pZ ≠ ⟨#[a, b, c]⟩ := h 2 (by decide)
  show rd3 a b c = _
  unfold rd3
  rw [hx]
  split
  · rename_i e
    obtain ⟨rfl, rfl, rfl⟩ := e
    exact absurd rfl h2
  · split
    · rename_i e
      have hf : fp x = x := fp_small (fi_ok e.1).1 (fi_ok e.1).2
      rw [hf] at h0 h1
      split
      · split
        · rename_i e2
          exfalso
          unfold rdY at e2
          split at e2
          · exact h0 e2
          · exact h1 e2
        · rfl
      · rfl
    · rfl

end Go.Proofs.YtkmelamfohfdkabDoor

/-
  The walks of the laws on the functions of points.
  (-DROP-: what the seat lacks is left out.)
-/
namespace Go.Proofs.YtkmelamfohfdkabDoor
open Go.RowKit Go.ChangeShapes Go.WideShapes

set_option maxHeartbeats 800000 in
set_option maxRecDepth 100000 in
theorem eqPoint_same (P : Pt) (w : World) :
    Calls Tryd.prog 6 #[pv P, pv P] w fun e w' => e = .returned (.bool true) ∧ Below w.heap.size w w' := by
  go_enter Tryd.func6, Tryd.ntmps6
  go_wp2
  go_ret
  exact ⟨rfl, ((Below.refl _ _).alloc (Nat.le_refl _) _).alloc (by simp) _⟩

end Go.Proofs.YtkmelamfohfdkabDoor

/-
  Rows of points: blocks, copies, whether two are the same.
  (-DROP-: what the seat lacks is left out.)
-/
namespace Go.Proofs.YtkmelamfohfdkabDoor
open Go.RowKit

/-- A cell of a point. -/
def pcell (P : Pt) (i : Nat) : Value := if i = 0 then .int .i64 P.1 else if i = 1 then .int .i64 P.2.1 else .bool P.2.2

/-- The cells of a row of points. -/
def pcs (f : Nat → Pt) (n : Nat) : Array Value := ((List.range (n * 3)).map fun k => pcell (f (k / 3)) (k % 3)).toArray

theorem pcs_size (f : Nat → Pt) (n : Nat) : (pcs f n).size = n * 3 := by simp [pcs]

theorem pcs_get (f : Nat → Pt) {n k : Nat} (h : k < n * 3) : (pcs f n)[k]? = some (pcell (f (k / 3)) (k % 3)) := by simp [pcs, h]

/-- Another point at j. -/
def updP (f : Nat → Pt) (j : Nat) (P : Pt) : Nat → Pt := fun i => if i = j then P else f i

theorem pcs_set (f : Nat → Pt) (n j : Nat) (P : Pt) (_hj : j < n) : (((pcs f n).setIfInBounds (j * 3) (.int .i64 P.1)).setIfInBounds (j * 3 + 1) (.int .i64 P.2.1)).setIfInBounds (j * 3 + 2) (.bool P.2.2) = pcs (updP f j P) n := by
  apply Array.ext_getElem?
  intro k
  by_cases hk : k < n * 3
  · rw [pcs_get _ hk]
    simp only [Array.getElem?_setIfInBounds, pcs_get f hk, Array.size_setIfInBounds, pcs_size]
    unfold updP pcell
    by_cases h2 : j * 3 + 2 = k
    · subst h2
      rw [if_pos rfl, if_pos hk, show (j * 3 + 2) / 3 = j by omega, show (j * 3 + 2) % 3 = 2 by omega]
      simp
    · rw [if_neg h2]
      by_cases h1 : j * 3 + 1 = k
      · subst h1
        rw [if_pos rfl, if_pos hk, show (j * 3 + 1) / 3 = j by omega, show (j * 3 + 1) % 3 = 1 by omega]
        simp
      · rw [if_neg h1]
        by_cases h0 : j * 3 = k
        · subst h0
          rw [if_pos rfl, if_pos hk, show (j * 3) / 3 = j by omega, show (j * 3) % 3 = 0 by omega]
          simp
        · rw [if_neg h0, if_neg (show ¬ k / 3 = j by omega)]
  · have hn : ∀ g : Nat → Pt, (pcs g n)[k]? = none := fun g => Array.getElem?_eq_none (by rw [pcs_size]; omega)
    rw [hn]
    simp only [Array.getElem?_setIfInBounds, hn, Array.size_setIfInBounds, pcs_size]
    rw [if_neg (by omega), if_neg (by omega), if_neg (by omega)]

/-- Block g is a row of points. -/
def RowPt (w : World) (g n : Nat) (f : Nat → Pt) : Prop := w.heap[g]? = some (.cells (pcs f n) 23 (0, 0))

theorem RowPt.cell {w : World} {g n : Nat} {f : Nat → Pt} (h : RowPt w g n f) {k : Nat} (hk : k < n * 3) : w.cell? ⟨g, k, none⟩ = some (pcell (f (k / 3)) (k % 3)) := by
  rw [cell_of_row w g k _ 23 (0, 0) h, pcs_get f hk]

theorem RowPt.cells {w : World} {g n : Nat} {f : Nat → Pt} (h : RowPt w g n f) {j : Nat} (hj : j < n) : w.cell? ⟨g, j * 3, none⟩ = some (.int .i64 (f j).1) ∧ w.cell? ⟨g, j * 3 + 1, none⟩ = some (.int .i64 (f j).2.1) ∧ w.cell? ⟨g, j * 3 + 2, none⟩ = some (.bool (f j).2.2) := by
  refine ⟨?_, ?_, ?_⟩
  · rw [h.cell (by omega), show j * 3 / 3 = j by omega, show j * 3 % 3 = 0 by omega]; rfl
  · rw [h.cell (by omega), show (j * 3 + 1) / 3 = j by omega, show (j * 3 + 1) % 3 = 1 by omega]; rfl
  · rw [h.cell (by omega), show (j * 3 + 2) / 3 = j by omega, show (j * 3 + 2) % 3 = 2 by omega]; rfl

theorem RowPt.free {w : World} {g n : Nat} {f : Nat → Pt} (h : RowPt w g n f) (k : Nat) : w.frozen? ⟨g, k, none⟩ = false := frozen_of_row w g k _ 23 h

theorem RowPt.lt {w : World} {g n : Nat} {f : Nat → Pt} (h : RowPt w g n f) : g < w.heap.size := (Array.getElem?_eq_some_iff.1 h).1

theorem RowPt.set {w : World} {g n : Nat} {f : Nat → Pt} (h : RowPt w g n f) {j : Nat} (hj : j < n) (P : Pt) : RowPt (((w.setCell ⟨g, j * 3, none⟩ (.int .i64 P.1)).setCell ⟨g, j * 3 + 1, none⟩ (.int .i64 P.2.1)).setCell ⟨g, j * 3 + 2, none⟩ (.bool P.2.2)) g n (updP f j P) := by
  have h1 := heap_setCell_same w g (j * 3) _ 23 (.int .i64 P.1) h
  have h2 := heap_setCell_same _ g (j * 3 + 1) _ 23 (.int .i64 P.2.1) h1
  have h3 := heap_setCell_same _ g (j * 3 + 2) _ 23 (.bool P.2.2) h2
  rw [pcs_set f n j P hj] at h3
  exact h3

theorem RowPt.on {w w1 : World} {g n c : Nat} {f : Nat → Pt} (h : RowPt w g n f) (hb : Below c w w1) (hc : g < c) : RowPt w1 g n f := (hb.block g hc).trans h

theorem RowPt.pts {w : World} {g n c : Nat} {f : Nat → Pt} (h : RowPt w g n f) (hc : g < c) : PtsAt w (some ⟨g, 0, none⟩) n c f := fun j hj => by
  obtain ⟨h1, h2, h3⟩ := h.cells hj
  exact ⟨g, 0, rfl, hc, by rw [Nat.zero_add]; exact h1, by rw [Nat.zero_add]; exact h2, by rw [Nat.zero_add]; exact h3⟩

theorem RowPt.congr {w : World} {g n : Nat} {f f' : Nat → Pt} (h : RowPt w g n f) (hf : ∀ j, j < n → f j = f' j) : RowPt w g n f' := by
  have e : pcs f n = pcs f' n := by
    unfold pcs
    congr 1
    apply List.map_congr_left
    intro k hk
    rw [hf (k / 3) (by have := List.mem_range.1 hk; omega)]
  unfold RowPt
  rw [← e]
  exact h

theorem infoPm : (Tryd.prog.info? 23).map (fun i => (i.zero, i.size, i.bytes)) = some (some (.agg #[.int .i64 0, .int .i64 0, .bool false]), 3, 24) := by kernel_rfl

/-- No point. -/
def noP : Nat → Pt := fun _ => (0, 0, false)

/-- make([]Point, n). -/
theorem make_pts (n : Nat) (h2 : n ≤ 1073741824) (W : World) :
    (Instr.makeSlice 35 (.int .i64 (n : Int)) (.int .i64 (n : Int))).run Tryd.prog W = .ok (.slice (some ⟨W.heap.size, 0, none⟩) n n) (W.alloc (.cells (pcs noP n) 23)) := by
  obtain ⟨i0, hi, hz0, hz1, hz2⟩ := info_parts infoPm
  have hM : madeCells (Value.agg #[.int .i64 0, .int .i64 0, .bool false]).cells ((n : Int).toNat * i0.size) = pcs noP n := by
    rw [hz1]
    apply Array.ext_getElem?
    intro k
    by_cases hk : k < n * 3
    · rw [pcs_get _ hk]
      have hm : k % 3 = 0 ∨ k % 3 = 1 ∨ k % 3 = 2 := by omega
      rcases hm with h | h | h <;> simp [madeCells, Value.cells, hk, h, pcell, noP]
    · rw [Array.getElem?_eq_none (by rw [size_madeCells]; simp; omega), Array.getElem?_eq_none (by rw [pcs_size]; omega)]
  have h := run_make (P := Tryd.prog) W 35 23 i0 (.agg #[.int .i64 0, .int .i64 0, .bool false]) Tryd.underlying35 hi hz0 .i64 .i64 (n : Int) (n : Int) (by omega) (by omega) (by rw [hz2]; omega) (by omega)
  rw [hM] at h
  simpa using h

/-- The first k of f, then none. -/
def uptoP (f : Nat → Pt) (k : Nat) : Nat → Pt := fun j => if j < k then f j else (0, 0, false)

theorem uptoP_next (f : Nat → Pt) (k : Nat) : updP (uptoP f k) k (f k) = uptoP f (k + 1) := by
  funext i
  unfold updP uptoP
  by_cases h : i = k
  · subst h
    rw [if_pos rfl, if_pos (by omega)]
  · rw [if_neg h]
    by_cases h2 : i < k
    · rw [if_pos h2, if_pos (by omega)]
    · rw [if_neg h2, if_neg (by omega)]

end Go.Proofs.YtkmelamfohfdkabDoor

/-
  Worlds that differ in some blocks alone.
-/
namespace Go.Proofs.YtkmelamfohfdkabDoor
open Go.RowKit

/-- All blocks but these are as they were; the streams are as they were. -/
structure Kps (S : Nat → Prop) (w w' : World) : Prop where
  os : w'.os = w.os
  tape : w'.tape = w.tape
  output : w'.output = w.output
  size : w.heap.size ≤ w'.heap.size
  block : ∀ k, k < w.heap.size → ¬ S k → w'.heap[k]? = w.heap[k]?

theorem Kps.refl (S : Nat → Prop) (w : World) : Kps S w w := ⟨rfl, rfl, rfl, Nat.le_refl _, fun _ _ _ => rfl⟩
theorem Kps.trans {S : Nat → Prop} {a b c : World} (h : Kps S a b) (k : Kps S b c) : Kps S a c :=
  ⟨k.os.trans h.os, k.tape.trans h.tape, k.output.trans h.output, Nat.le_trans h.size k.size, fun i hi hs => (k.block i (Nat.lt_of_lt_of_le hi h.size) hs).trans (h.block i hi hs)⟩
theorem Kps.more {S T : Nat → Prop} {a b : World} (h : Kps S a b) (hT : ∀ k, S k → T k) : Kps T a b :=
  ⟨h.os, h.tape, h.output, h.size, fun i hi ht => h.block i hi fun s => ht (hT i s)⟩
theorem Kps.of_below {S : Nat → Prop} {a b : World} (h : Below a.heap.size a b) : Kps S a b := ⟨h.os, h.tape, h.output, h.size, fun i hi _ => h.block i hi⟩
theorem Kps.drew {S : Nat → Prop} {a b : World} (h : Kps S a b) : Kps S a b.drew := ⟨h.os, h.tape, h.output, h.size, h.block⟩
theorem Kps.setCell {S : Nat → Prop} {a b : World} (h : Kps S a b) {p : Addr} (hp : S p.block) (u : Value) : Kps S a (b.setCell p u) :=
  h.trans ⟨rfl, rfl, rfl, by simp [World.setCell], fun k _ hs => Below.heap_setCell _ _ _ _ fun e => hs (e ▸ hp)⟩
theorem Kps.bel {S : Nat → Prop} {B : Nat} {w0 w w' : World} (h : Kps S w w') (hb : Below B w0 w) (hB : B ≤ w.heap.size) (hS : ∀ k, S k → B ≤ k) : Below B w0 w' :=
  ⟨h.os.trans hb.os, h.tape.trans hb.tape, h.output.trans hb.output, Nat.le_trans hb.size h.size, fun k hk => (h.block k (by omega) fun s => by have := hS k s; omega).trans (hb.block k hk)⟩
theorem Kps.blk {S : Nat → Prop} {w w' : World} (h : Kps S w w') {g : Nat} {t : TypeId} {cs : Array Value} (hb : Blk w g t cs) (hg : ¬ S g) : Blk w' g t cs := (h.block g hb.lt hg).trans hb
theorem Kps.row {S : Nat → Prop} {w w' : World} (h : Kps S w w') {B e sz n : Nat} {v : Value} {xs : List Value} (hr : w.ownsRow B e sz v n xs) (hv : ∀ k, v.ownBlock = some k → ¬ S k) : w'.ownsRow B e sz v n xs := by
  refine ⟨hr.1, ?_⟩
  rcases hr.2 with h0 | ⟨g, cap, cur, hve, hB, hg, rest⟩
  · exact .inl h0
  · exact .inr ⟨g, cap, cur, hve, hB, (h.block g (Array.getElem?_eq_some_iff.1 hg).1 (hv g (by rw [hve]; rfl))).trans hg, rest⟩

end Go.Proofs.YtkmelamfohfdkabDoor
