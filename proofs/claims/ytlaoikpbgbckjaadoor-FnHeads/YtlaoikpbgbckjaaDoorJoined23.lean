/-
  Texts of one's own, joined.
-/
import Derived.Test.YtlaoikpbgbckjaaDoorHeadI3
import Derived.Test.YtlaoikpbgbckjaaDoorProg
import Derived.Test.YtlaoikpbgbckjaaDoorJoined14
import Derived.WalkKit
import Derived.StillTail
import Derived.StillTailTactics

/-
  The walks of the exact laws of heads: those without a table.
  (-DROP-: what the seat lacks is left out.)
-/
namespace Go.Proofs.YtlaoikpbgbckjaaDoor
open Go.RowKit

theorem infoLH : (Tryd.prog.info? 39).map (·.size) = some 4 := by kernel_rfl

/-- The parts of a head are no longer than texts can be. -/
def HLen (h : Hd) : Prop := h.2.1.size ≤ 9223372036854775807 ∧ h.2.2.1.size ≤ 9223372036854775807 ∧ h.2.2.2.size ≤ 9223372036854775807

set_option maxHeartbeats 800000 in
set_option maxRecDepth 100000 in
theorem szHead_any (h : Hd) (hl : HLen h) (w : World) :
    Calls Tryd.prog 21 #[hv h, .int .i64 1048576] w fun e w' => ∃ r : Int, e = .returned (.int .i64 r) ∧ Below w.heap.size w w' := by
  obtain ⟨s, p, t, b⟩ := h
  obtain ⟨h1, h2, h3⟩ := hl
  simp only at h1 h2 h3
  unfold hv hc
  simp only
  obtain ⟨np, hnp⟩ : ∃ n, p.size = n := ⟨_, rfl⟩
  obtain ⟨nt, hnt⟩ : ∃ n, t.size = n := ⟨_, rfl⟩
  obtain ⟨nb, hnb⟩ : ∃ n, b.size = n := ⟨_, rfl⟩
  rw [hnp] at h1
  rw [hnt] at h2
  rw [hnb] at h3
  have hw1 : IntKind.i64.wrap (1048576 - (np : Int)) = 1048576 - (np : Int) := IntWalk.i64_in _ (by omega)
  obtain ⟨W, hW, hb, hx⟩ := box1 w 39 #[.int .i64 s, .string p, .string t, .string b]
  have q1 := hx.cell 1
  have q2 := hx.cell 2
  have q3 := hx.cell 3
  by_cases g1 : (1048576 : Int) - (np : Int) < 0
  · go_enter Tryd.func21, Tryd.ntmps21
    go_wp2
    go_ret
    first | exact ⟨_, rfl, hb⟩ | exact hb | exact ⟨⟨_, rfl⟩, hb⟩
  · have hw2 : IntKind.i64.wrap (1048576 - (np : Int) - (nt : Int)) = 1048576 - (np : Int) - (nt : Int) := IntWalk.i64_in _ (by omega)
    by_cases g2 : (1048576 : Int) - (np : Int) - (nt : Int) < 0
    · go_enter Tryd.func21, Tryd.ntmps21
      go_wp2
      go_ret
      first | exact ⟨_, rfl, hb⟩ | exact hb | exact ⟨⟨_, rfl⟩, hb⟩
    · have hw3 : IntKind.i64.wrap (1048576 - (np : Int) - (nt : Int) - (nb : Int)) = 1048576 - (np : Int) - (nt : Int) - (nb : Int) := IntWalk.i64_in _ (by omega)
      by_cases g3 : (1048576 : Int) - (np : Int) - (nt : Int) - (nb : Int) < 0
      · go_enter Tryd.func21, Tryd.ntmps21
        go_wp2
        go_ret
        first | exact ⟨_, rfl, hb⟩ | exact hb | exact ⟨⟨_, rfl⟩, hb⟩
      · go_enter Tryd.func21, Tryd.ntmps21
        go_wp2
        go_ret
        first | exact ⟨_, rfl, hb⟩ | exact hb | exact ⟨⟨_, rfl⟩, hb⟩

set_option maxHeartbeats 800000 in
set_option maxRecDepth 100000 in
theorem toHead_any (h : Hd) (w : World) :
    Calls Tryd.prog 22 #[hv h] w fun e w' => e = .returned (hv h) ∧ Below w.heap.size w w' := by
  obtain ⟨s, p, t, b⟩ := h
  unfold hv hc
  simp only
  go_enter Tryd.func22, Tryd.ntmps22
  go_wp2
  refine bodyPost_ret_by (result_blk rfl rfl (Blk.alloc (Blk.newAt (by simp)) _) Tryd.underlying25 infoH) rfl ⟨rfl, (((Below.refl _ _).alloc (Nat.le_refl _) _).alloc (by simp) _).alloc (by simp; omega) _⟩

end Go.Proofs.YtlaoikpbgbckjaaDoor

/-
  Rows of texts: blocks, copies, whether two are the same.
  (-DROP-: what the seat lacks is left out.)
-/
namespace Go.Proofs.YtlaoikpbgbckjaaDoor
open Go.RowKit

/-- What a list of texts holds; it lies below block c. -/
def StrsAt (w : World) (a : Option Addr) (len c : Nat) (f : Nat → ByteArray) : Prop :=
  ∀ j, j < len → ∃ b off, a = some ⟨b, off, none⟩ ∧ b < c ∧ w.cell? ⟨b, off + j, none⟩ = some (.string (f j))

theorem StrsAt.on {w w1 : World} {a : Option Addr} {len c : Nat} {f : Nat → ByteArray} (h : StrsAt w a len c f) (hb : Below c w w1) : StrsAt w1 a len c f := fun j hj => by
  obtain ⟨b, off, h1, h2, h3⟩ := h j hj
  exact ⟨b, off, h1, h2, (hb.cell (p := ⟨b, off + j, none⟩) h2).trans h3⟩

theorem StrsAt.wide {w : World} {a : Option Addr} {len c d : Nat} {f : Nat → ByteArray} (h : StrsAt w a len c f) (hd : c ≤ d) : StrsAt w a len d f := fun j hj => by
  obtain ⟨b, off, h1, h2, h3⟩ := h j hj
  exact ⟨b, off, h1, by omega, h3⟩

theorem StrsAt.congr {w : World} {a : Option Addr} {len c : Nat} {f g : Nat → ByteArray} (h : StrsAt w a len c f) (hf : ∀ j, j < len → f j = g j) : StrsAt w a len c g := fun j hj => by
  obtain ⟨b, off, h1, h2, h3⟩ := h j hj
  exact ⟨b, off, h1, h2, by rw [← hf j hj]; exact h3⟩

/-- The cells of a row of texts. -/
def tc (f : Nat → ByteArray) (n : Nat) : Array Value := ((List.range n).map fun j => Value.string (f j)).toArray

theorem tc_size (f : Nat → ByteArray) (n : Nat) : (tc f n).size = n := by simp [tc]

theorem tc_at (f : Nat → ByteArray) {n j : Nat} (h : j < n) : (tc f n)[j]? = some (.string (f j)) := by simp [tc, h]

theorem tc_set (f : Nat → ByteArray) (n j : Nat) (x : ByteArray) : (tc f n).setIfInBounds j (.string x) = tc (fun i => if i = j then x else f i) n := by
  have e : (tc f n).setIfInBounds j (.string x) = (((List.range n).map fun j => Value.string (f j)).set j (.string x)).toArray := by simp [tc]
  rw [e]
  unfold tc
  congr 1
  apply List.ext_getElem
  · simp
  · intro i h1 h2
    by_cases h : j = i
    · subst h; simp
    · have h' : ¬ i = j := fun e => h e.symm
      rw [List.getElem_set_ne h]
      simp [h']

/-- Block g is a row of texts. -/
def RowT (w : World) (g n : Nat) (f : Nat → ByteArray) : Prop := w.heap[g]? = some (.cells (tc f n) 9 (0, 0))

theorem RowT.cell {w : World} {g n : Nat} {f : Nat → ByteArray} (h : RowT w g n f) {j : Nat} (hj : j < n) : w.cell? ⟨g, j, none⟩ = some (.string (f j)) := by
  rw [cell_of_row w g j _ 9 (0, 0) h, tc_at f hj]

theorem RowT.free {w : World} {g n : Nat} {f : Nat → ByteArray} (h : RowT w g n f) (j : Nat) : w.frozen? ⟨g, j, none⟩ = false := frozen_of_row w g j _ 9 h

theorem RowT.lt {w : World} {g n : Nat} {f : Nat → ByteArray} (h : RowT w g n f) : g < w.heap.size := by
  rcases Nat.lt_or_ge g w.heap.size with h1 | h1
  · exact h1
  · unfold RowT at h
    rw [Array.getElem?_eq_none h1] at h
    cases h

theorem RowT.set {w : World} {g n : Nat} {f : Nat → ByteArray} (h : RowT w g n f) (j : Nat) (x : ByteArray) : RowT (w.setCell ⟨g, j, none⟩ (.string x)) g n (fun i => if i = j then x else f i) := by
  have := heap_setCell_same w g j _ 9 (.string x) h
  rw [tc_set] at this
  exact this

theorem RowT.on {w w1 : World} {g n c : Nat} {f : Nat → ByteArray} (h : RowT w g n f) (hb : Below c w w1) (hc : g < c) : RowT w1 g n f := (hb.block g hc).trans h

theorem RowT.strs {w : World} {g n c : Nat} {f : Nat → ByteArray} (h : RowT w g n f) (hc : g < c) : StrsAt w (some ⟨g, 0, none⟩) n c f := fun j hj => ⟨g, 0, rfl, hc, by rw [Nat.zero_add]; exact h.cell hj⟩

theorem RowT.congr {w : World} {g n : Nat} {f f' : Nat → ByteArray} (h : RowT w g n f) (hf : ∀ j, j < n → f j = f' j) : RowT w g n f' := by
  have e : tc f n = tc f' n := by
    unfold tc
    congr 1
    apply List.map_congr_left
    intro j hj
    rw [hf j (List.mem_range.1 hj)]
  unfold RowT
  rw [← e]
  exact h

theorem rowT_new (w : World) (f : Nat → ByteArray) (n : Nat) : RowT (w.alloc (.cells (tc f n) 9)) w.heap.size n f := heap_alloc_new w _

theorem info9T : (Tryd.prog.info? 9).map (fun i => (i.zero, i.size, i.bytes)) = some (some (.string ⟨#[]⟩), 1, 16) := by kernel_rfl

/-- make([]int, n, m). -/
theorem make_texts (n m : Nat) (h1 : n ≤ m) (h2 : m ≤ 1073741824) (W : World) :
    (Instr.makeSlice 33 (.int .i64 (n : Int)) (.int .i64 (m : Int))).run Tryd.prog W = .ok (.slice (some ⟨W.heap.size, 0, none⟩) n m) (W.alloc (.cells (tc (fun _ => ⟨#[]⟩) m) 9)) := by
  obtain ⟨i0, hi, hz0, hz1, hz2⟩ := info_parts info9T
  have hM : madeCells (Value.string ⟨#[]⟩).cells ((m : Int).toNat * i0.size) = tc (fun _ => ⟨#[]⟩) m := by
    rw [hz1]
    have h3 := toList_madeCells_one (.string ⟨#[]⟩) m
    apply Array.toList_inj.1
    have e : (tc (fun _ => ⟨#[]⟩) m).toList = List.replicate m (Value.string ⟨#[]⟩) := by
      simp [tc, List.map_const', List.length_range]
    rw [e]
    simpa [Value.cells] using h3
  have h := run_make (P := Tryd.prog) W 33 9 i0 (.string ⟨#[]⟩) Tryd.underlying33 hi hz0 .i64 .i64 (n : Int) (m : Int) (by omega) (by omega) (by rw [hz2]; omega) (by omega)
  rw [hM] at h
  simpa using h

/-- The first k of f, then 0. -/
def upToT (f : Nat → ByteArray) (k : Nat) : Nat → ByteArray := fun j => if j < k then f j else ⟨#[]⟩

theorem upToT_next (f : Nat → ByteArray) (k : Nat) : (fun i => if i = k then f k else upToT f k i) = upToT f (k + 1) := by
  funext i
  unfold upToT
  by_cases h : i = k
  · subst h
    rw [if_pos rfl, if_pos (by omega)]
  · rw [if_neg h]
    by_cases h2 : i < k
    · rw [if_pos h2, if_pos (by omega)]
    · rw [if_neg h2, if_neg (by omega)]

theorem upToT_in (f : Nat → ByteArray) {k j : Nat} (h : j < k) : upToT f k j = f j := if_pos h

end Go.Proofs.YtlaoikpbgbckjaaDoor
