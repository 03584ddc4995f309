/-
  Texts of one's own, joined.
-/
import Derived.Test.YtkmelamfohfdkaaProg
import Derived.Test.YtkmelamfohfdkaaJoined41
import Derived.WalkKit
import Derived.StillTail
import Derived.StillTailTactics
import Derived.Test.YtkmelamfohfdkaaOwn

/-
  Rows of ints: blocks, copies, whether two are the same.
  (-DROP-: what the seat lacks is left out.)
-/
namespace Go.Proofs.Ytkmelamfohfdkaa
open Go.RowKit

/-- The cells of a row of ints. -/
def ic (f : Nat → Int) (n : Nat) : Array Value := ((List.range n).map fun j => Value.int .i64 (f j)).toArray

theorem ic_size (f : Nat → Int) (n : Nat) : (ic f n).size = n := by simp [ic]

theorem ic_at (f : Nat → Int) {n j : Nat} (h : j < n) : (ic f n)[j]? = some (.int .i64 (f j)) := by simp [ic, h]

theorem ic_set (f : Nat → Int) (n j : Nat) (x : Int) : (ic f n).setIfInBounds j (.int .i64 x) = ic (fun i => if i = j then x else f i) n := by
  have e : (ic f n).setIfInBounds j (.int .i64 x) = (((List.range n).map fun j => Value.int .i64 (f j)).set j (.int .i64 x)).toArray := by simp [ic]
  rw [e]
  unfold ic
  congr 1
  apply List.ext_getElem
  · simp
  · intro i h1 h2
    by_cases h : j = i
    · subst h; simp
    · have h' : ¬ i = j := fun e => h e.symm
      rw [List.getElem_set_ne h]
      simp [h']

/-- Block g is a row of ints. -/
def RowI (w : World) (g n : Nat) (f : Nat → Int) : Prop := w.heap[g]? = some (.cells (ic f n) 3 (0, 0))

theorem RowI.cell {w : World} {g n : Nat} {f : Nat → Int} (h : RowI w g n f) {j : Nat} (hj : j < n) : w.cell? ⟨g, j, none⟩ = some (.int .i64 (f j)) := by
  rw [cell_of_row w g j _ 3 (0, 0) h, ic_at f hj]

theorem RowI.free {w : World} {g n : Nat} {f : Nat → Int} (h : RowI w g n f) (j : Nat) : w.frozen? ⟨g, j, none⟩ = false := frozen_of_row w g j _ 3 h

theorem RowI.lt {w : World} {g n : Nat} {f : Nat → Int} (h : RowI w g n f) : g < w.heap.size := by
  rcases Nat.lt_or_ge g w.heap.size with h1 | h1
  · exact h1
  · unfold RowI at h
    rw [Array.getElem?_eq_none h1] at h
    cases h

theorem RowI.set {w : World} {g n : Nat} {f : Nat → Int} (h : RowI w g n f) (j : Nat) (x : Int) : RowI (w.setCell ⟨g, j, none⟩ (.int .i64 x)) g n (fun i => if i = j then x else f i) := by
  have := heap_setCell_same w g j _ 3 (.int .i64 x) h
  rw [ic_set] at this
  exact this

theorem RowI.on {w w1 : World} {g n c : Nat} {f : Nat → Int} (h : RowI w g n f) (hb : Below c w w1) (hc : g < c) : RowI w1 g n f := (hb.block g hc).trans h

theorem RowI.ints {w : World} {g n c : Nat} {f : Nat → Int} (h : RowI w g n f) (hc : g < c) : IntsAt w (some ⟨g, 0, none⟩) n c f := fun j hj => ⟨g, 0, rfl, hc, by rw [Nat.zero_add]; exact h.cell hj⟩

theorem RowI.congr {w : World} {g n : Nat} {f f' : Nat → Int} (h : RowI w g n f) (hf : ∀ j, j < n → f j = f' j) : RowI w g n f' := by
  have e : ic f n = ic f' n := by
    unfold ic
    congr 1
    apply List.map_congr_left
    intro j hj
    rw [hf j (List.mem_range.1 hj)]
  unfold RowI
  rw [← e]
  exact h

theorem rowI_new (w : World) (f : Nat → Int) (n : Nat) : RowI (w.alloc (.cells (ic f n) 3)) w.heap.size n f := heap_alloc_new w _

theorem info3I : (Try.prog.info? 3).map (fun i => (i.zero, i.size, i.bytes)) = some (some (.int .i64 0), 1, 8) := by kernel_rfl

/-- The first k of f, then 0. -/
def upTo (f : Nat → Int) (k : Nat) : Nat → Int := fun j => if j < k then f j else 0

theorem upTo_next (f : Nat → Int) (k : Nat) : (fun i => if i = k then f k else upTo f k i) = upTo f (k + 1) := by
  funext i
  unfold upTo
  by_cases h : i = k
  · subst h
    rw [if_pos rfl, if_pos (by omega)]
  · rw [if_neg h]
    by_cases h2 : i < k
    · rw [if_pos h2, if_pos (by omega)]
    · rw [if_neg h2, if_neg (by omega)]

theorem upTo_in (f : Nat → Int) {k j : Nat} (h : j < k) : upTo f k j = f j := if_pos h

end Go.Proofs.Ytkmelamfohfdkaa

/-
  Rows of numbers that are owned.
  (-DROP-: what the seat lacks is left out.)
-/
namespace Go.Proofs.Ytkmelamfohfdkaa
open Go.RowKit

/-- A row of numbers that is owned. -/
def zsV (l : List Int) : List Value := l.map (Value.int .i64)
def RowZs (B : Nat) (w : World) (v : Value) (l : List Int) : Prop := w.ownsRow B 3 1 v l.length (zsV l)
theorem zsV_append (a b : List Int) : zsV (a ++ b) = zsV a ++ zsV b := by simp [zsV]

theorem RowZs.ints {B : Nat} {w : World} {v : Value} {l : List Int} (h : RowZs B w v l) : ∃ a cp, v = .slice a l.length cp ∧ IntsAt w a l.length w.heap.size (fun j => l.getD j 0) := by
  rcases h.2 with ⟨rfl, h0⟩ | ⟨g, cp, cur, rfl, hg, hh, hrest⟩
  · exact ⟨none, 0, by rw [h0], fun j hj => by omega⟩
  · refine ⟨_, cp, rfl, fun j hj => ⟨g, 0, rfl, (Array.getElem?_eq_some_iff.1 hh).1, ?_⟩⟩
    have hc := h.cellAt j (by omega)
    rw [Nat.zero_add, hc]
    simp [zsV, hj]

/-- The first n of a row. -/
def zls (f : Nat → Int) (n : Nat) : List Int := (List.range n).map f
theorem zls_length (f : Nat → Int) (n : Nat) : (zls f n).length = n := by simp [zls]
theorem zls_at (f : Nat → Int) {n j : Nat} (h : j < n) : (zls f n).getD j 0 = f j := by simp [zls, h]
theorem zls_next (f : Nat → Int) (n : Nat) : zls f (n + 1) = zls f n ++ [f n] := by
  unfold zls
  rw [List.range_succ, List.map_append]
  rfl
theorem zls_getD (l : List Int) : zls (fun j => l.getD j 0) l.length = l := by
  apply List.ext_getElem
  · simp [zls]
  · intro i h1 h2
    simp [zls, h2]

theorem RowI.rowZ {w : World} {g n B : Nat} {f : Nat → Int} (h : RowI w g n f) (hB : B ≤ g) (hn : n ≤ 1048576) : RowZs B w (.slice (some ⟨g, 0, none⟩) n n) (zls f n) := by
  unfold RowZs
  rw [zls_length]
  refine ⟨by simp [zls, zsV], .inr ⟨g, n, ic f n, rfl, hB, h, Nat.le_refl _, by unfold maxLen; omega, by rw [ic_size, Nat.mul_one], ?_⟩⟩
  rw [Nat.mul_one, List.take_of_length_le (by simp [ic])]
  simp [ic, zls, zsV]

end Go.Proofs.Ytkmelamfohfdkaa
