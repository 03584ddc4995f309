/-
  Texts of one's own, joined.
-/
import Derived.Test.YtkmelamfohfdkabJoined21
import Derived.Test.YtkmelamfohfdkabOwn

/-
  Rows of points that are owned.
-/
namespace Go.Proofs.Ytkmelamfohfdkab
open Go.RowKit

/-- The cells of a list of points. -/
def ptsV (l : List Pt) : List Value := l.flatMap fun P => [.int .i64 P.1, .int .i64 P.2.1, .bool P.2.2]

theorem ptsV_append (a b : List Pt) : ptsV (a ++ b) = ptsV a ++ ptsV b := by simp [ptsV]

theorem ptsV_at : ∀ (l : List Pt) (j i : Nat), j < l.length → i < 3 → (ptsV l)[j * 3 + i]? = (pc (l.getD j pZ))[i]?
  | P :: l, 0, i, _, hi => by
    show ([.int .i64 P.1, .int .i64 P.2.1, .bool P.2.2] ++ ptsV l)[0 * 3 + i]? = _
    rw [List.getElem?_append_left (by simp; omega)]
    match i, hi with
    | 0, _ => rfl
    | 1, _ => rfl
    | 2, _ => rfl
  | P :: l, j + 1, i, hj, hi => by
    show ([.int .i64 P.1, .int .i64 P.2.1, .bool P.2.2] ++ ptsV l)[(j + 1) * 3 + i]? = _
    rw [List.getElem?_append_right (by simp; omega)]
    have := ptsV_at l j i (by simpa using hj) hi
    rw [show (j + 1) * 3 + i - [Value.int .i64 P.1, .int .i64 P.2.1, .bool P.2.2].length = j * 3 + i by simp; omega, this]
    simp

/-- A value is a list of these points, owned from B on. -/
def RowP (B : Nat) (w : World) (v : Value) (l : List Pt) : Prop := w.ownsRow B 49 3 v l.length (ptsV l)

theorem RowP.pts {B : Nat} {w : World} {v : Value} {l : List Pt} (h : RowP B w v l) : ∃ a cp, v = .slice a l.length cp ∧ PtsAt w a l.length w.heap.size (fun j => l.getD j pZ) := by
  rcases h.2 with ⟨rfl, h0⟩ | ⟨g, cp, cur, rfl, hg, hh, hrest⟩
  · exact ⟨none, 0, by rw [h0], fun j hj => by omega⟩
  · refine ⟨_, cp, rfl, fun j hj => ⟨g, 0, rfl, ?_, ?_, ?_, ?_⟩⟩
    · have hc := h.cellAt (j * 3 + 0) (by omega)
      rw [ptsV_at l j 0 hj (by omega)] at hc
      exact World.block_lt_of_cell? w _ hc
    · have hc := h.cellAt (j * 3 + 0) (by omega)
      rw [ptsV_at l j 0 hj (by omega)] at hc
      rw [Nat.zero_add]
      exact hc
    · have hc := h.cellAt (j * 3 + 1) (by omega)
      rw [ptsV_at l j 1 hj (by omega)] at hc
      rw [Nat.zero_add]
      exact hc
    · have hc := h.cellAt (j * 3 + 2) (by omega)
      rw [ptsV_at l j 2 hj (by omega)] at hc
      rw [Nat.zero_add]
      exact hc

theorem infoPz : (Try.prog.info? 49).map (fun i => (i.zero, i.size, i.bytes)) = some (some (.agg #[.int .i64 0, .int .i64 0, .bool false]), 3, 24) := by kernel_rfl

theorem cell_three_new (w : World) (x y z : Value) (t : TypeId) : ∀ j u, [x, y, z][j]? = some u → (w.alloc (.cells #[x, y, z] t)).cell? ((⟨w.heap.size, 0, none⟩ : Addr).add j) = some u := by
  intro j u hj
  rw [Addr.add_lit, Nat.zero_add, cell_of_row _ w.heap.size j #[x, y, z] t (0, 0) (heap_alloc_new w _)]
  simpa using hj

theorem three_cell (a b : Int) (c : Bool) : ∀ u ∈ [Value.int .i64 a, Value.int .i64 b, Value.bool c], u.oneCell' = true := by
  intro u hu
  simp at hu
  rcases hu with rfl | rfl | rfl <;> rfl

end Go.Proofs.Ytkmelamfohfdkab

/-
  Worlds that differ in some blocks alone.
-/
namespace Go.Proofs.Ytkmelamfohfdkab
open Go.RowKit

/-- All blocks but these are as they were; the streams are as they were. -/
structure Kps (S : Nat → Prop) (w w' : World) : Prop where
  os : w'.os = w.os
  tape : w'.tape = w.tape
  output : w'.output = w.output
  size : w.heap.size ≤ w'.heap.size
  block : ∀ k, k < w.heap.size → ¬ S k → w'.heap[k]? = w.heap[k]?

theorem Kps.refl (S : Nat → Prop) (w : World) : Kps S w w := ⟨rfl, rfl, rfl, Nat.le_refl _, fun _ _ _ => rfl⟩
theorem Kps.trans {S : Nat → Prop} {a b c : World} (h : Kps S a b) (k : Kps S b c) : Kps S a c :=
  ⟨k.os.trans h.os, k.tape.trans h.tape, k.output.trans h.output, Nat.le_trans h.size k.size, fun i hi hs => (k.block i (Nat.lt_of_lt_of_le hi h.size) hs).trans (h.block i hi hs)⟩
theorem Kps.more {S T : Nat → Prop} {a b : World} (h : Kps S a b) (hT : ∀ k, S k → T k) : Kps T a b :=
  ⟨h.os, h.tape, h.output, h.size, fun i hi ht => h.block i hi fun s => ht (hT i s)⟩
theorem Kps.of_below {S : Nat → Prop} {a b : World} (h : Below a.heap.size a b) : Kps S a b := ⟨h.os, h.tape, h.output, h.size, fun i hi _ => h.block i hi⟩
theorem Kps.drew {S : Nat → Prop} {a b : World} (h : Kps S a b) : Kps S a b.drew := ⟨h.os, h.tape, h.output, h.size, h.block⟩
theorem Kps.setCell {S : Nat → Prop} {a b : World} (h : Kps S a b) {p : Addr} (hp : S p.block) (u : Value) : Kps S a (b.setCell p u) :=
  h.trans ⟨rfl, rfl, rfl, by simp [World.setCell], fun k _ hs => Below.heap_setCell _ _ _ _ fun e => hs (e ▸ hp)⟩
theorem Kps.bel {S : Nat → Prop} {B : Nat} {w0 w w' : World} (h : Kps S w w') (hb : Below B w0 w) (hB : B ≤ w.heap.size) (hS : ∀ k, S k → B ≤ k) : Below B w0 w' :=
  ⟨h.os.trans hb.os, h.tape.trans hb.tape, h.output.trans hb.output, Nat.le_trans hb.size h.size, fun k hk => (h.block k (by omega) fun s => by have := hS k s; omega).trans (hb.block k hk)⟩
theorem Kps.blk {S : Nat → Prop} {w w' : World} (h : Kps S w w') {g : Nat} {t : TypeId} {cs : Array Value} (hb : Blk w g t cs) (hg : ¬ S g) : Blk w' g t cs := (h.block g hb.lt hg).trans hb
theorem Kps.row {S : Nat → Prop} {w w' : World} (h : Kps S w w') {B e sz n : Nat} {v : Value} {xs : List Value} (hr : w.ownsRow B e sz v n xs) (hv : ∀ k, v.ownBlock = some k → ¬ S k) : w'.ownsRow B e sz v n xs := by
  refine ⟨hr.1, ?_⟩
  rcases hr.2 with h0 | ⟨g, cap, cur, hve, hB, hg, rest⟩
  · exact .inl h0
  · exact .inr ⟨g, cap, cur, hve, hB, (h.block g (Array.getElem?_eq_some_iff.1 hg).1 (hv g (by rw [hve]; rfl))).trans hg, rest⟩

end Go.Proofs.Ytkmelamfohfdkab
