/-
  Rows of bytes.
-/
import Derived.Test.YtlaoikpbgbckjaaProg
import Derived.WalkKit
namespace Go.Proofs.Ytlaoikpbgbckjaa
open Go.RowKit

def bytesV (l : List UInt8) : List Value := l.map fun c => .int .u8 (c.toNat : Int)
theorem bytesV_append (a b : List UInt8) : bytesV (a ++ b) = bytesV a ++ bytesV b := by simp [bytesV]
theorem bytesV_length (a : List UInt8) : (bytesV a).length = a.length := by simp [bytesV]
theorem toNat_of {n : Nat} (h : n < 256) : (UInt8.ofNat n).toNat = n := by simp; omega
theorem bytesV_one {n : Nat} (h : n < 256) : bytesV [UInt8.ofNat n] = [.int .u8 (n : Int)] := by simp only [bytesV, List.map_cons, List.map_nil, toNat_of h]

theorem row_form {w : World} {B e sz n : Nat} {v : Value} {xs : List Value} (h : w.ownsRow B e sz v n xs) : ∃ a cap, v = .slice a n cap := by
  rcases h.2 with ⟨rfl, h0⟩ | ⟨g, cap, cur, rfl, _⟩
  · subst h0; exact ⟨_, _, rfl⟩
  · exact ⟨_, _, rfl⟩

theorem one_cell (k : IntKind) (z : Int) : ∀ u ∈ [Value.int k z], u.oneCell' = true := by
  intro u hu; simp at hu; subst hu; rfl
theorem room_for {B : Nat} {w : World} (h : B ≤ w.heap.size) (o : Obj) : B ≤ (w.alloc o).heap.size := by simp; omega

theorem cells_of_row {w : World} {B e g cap : Nat} {l : List UInt8} (h : w.ownsRow B e 1 (.slice (some ⟨g, 0, none⟩) l.length cap) l.length (bytesV l)) :
    ∀ j (hj : j < l.length), w.cell? ((⟨g, 0, none⟩ : Addr).add j) = some (.int .u8 (l[j].toNat : Int)) := fun j hj => by
  rw [Addr.add_lit, Nat.zero_add, h.cellAt j (by omega)]
  simp [bytesV, hj]

theorem info5 : (Try.prog.info? 5).map (fun i => (i.zero, i.size, i.bytes)) = some (some (.int .u8 0), 1, 1) := by kernel_rfl

theorem text_of_nil (w : World) : (convert 49 9 (.slice none 0 0)).run Try.prog w = .ok (.string ⟨#[]⟩) w := by
  rw [run_convert_bytes_string w 49 9 5 none 0 0 Try.underlying49 Try.underlying5 Try.underlying9]
  rfl
theorem text_of_row {w : World} {B : Nat} {v : Value} {l : List UInt8} (h : w.ownsRow B 5 1 v l.length (bytesV l)) :
    (convert 49 9 v).run Try.prog w = .ok (.string ⟨l.toArray⟩) w := by
  rcases h.2 with ⟨rfl, h0⟩ | ⟨g, cap, cur, rfl, hg, hh, hnc, hcp, hcs, htake⟩
  · obtain rfl : l = [] := List.length_eq_zero_iff.1 h0
    exact text_of_nil w
  · exact run_convert_bytes_back (P := Try.prog) w 49 9 5 ⟨g, 0, none⟩ cap l Try.underlying49 Try.underlying5 Try.underlying9 (cells_of_row h)

/-- A value is a row of these bytes, owned from B on. -/
def RowB (B : Nat) (w : World) (v : Value) (l : List UInt8) : Prop := w.ownsRow B 5 1 v l.length (bytesV l)

/-- What one append of a byte leaves. -/
theorem push_b {w wr w1 W : World} {B e : Nat} {v v' : Value} {pre : List UInt8} {b : UInt8} {z : Int} (hz : z = (b.toNat : Int)) (hB : B ≤ W.heap.size) (hbel : Below B w W) (hown : wr.ownsRow B e 1 v pre.length (bytesV pre))
    (hown' : w1.ownsRow B e 1 v' (pre.length + 1) (bytesV pre ++ [Value.int .u8 z])) (hgrow : W.grownBy w1 v.ownBlock) :
    w1.ownsRow B e 1 v' (pre ++ [b]).length (bytesV (pre ++ [b])) ∧ Below B w w1 := by
  refine ⟨?_, hbel.grown hgrow hB (fun k hk => (hown.lt k hk).1)⟩
  rw [bytesV_append, List.length_append]
  subst hz
  exact hown'

/-- A row of bytes as the cells of a block. -/
def bCells (l : List UInt8) : Array Value := (bytesV l).toArray
theorem bCells_size (l : List UInt8) : (bCells l).size = l.length := by simp [bCells, bytesV]
theorem bCells_at (l : List UInt8) (i : Nat) (h : i < l.length) : (bCells l)[i]? = some (.int .u8 ((l.getD i 0).toNat : Int)) := by
  simp [bCells, bytesV, List.getD_eq_getElem?_getD, h]
theorem bCells_set (l : List UInt8) (i : Nat) (b : UInt8) : (bCells l).setIfInBounds i (.int .u8 (b.toNat : Int)) = bCells (l.set i b) := by
  simp [bCells, bytesV, List.map_set]
theorem bCells_zero (n : Nat) : (Array.replicate n (Value.int .u8 0)) = bCells (List.replicate n 0) := by
  simp [bCells, bytesV]
theorem owns_cells (w : World) (l : List UInt8) (h : l.length ≤ 4611686018427387904) :
    (w.alloc (.cells (bCells l) 5)).ownsRow w.heap.size 5 1 (.slice (some ⟨w.heap.size, 0, none⟩) l.length l.length) l.length (bytesV l) := by
  have := World.ownsRow_lit (base := w.heap.size) (e := 5) (size := 1) w (bCells l) l.length (Nat.le_refl _) (by unfold maxLen; omega) (by simp [bCells_size])
  simpa [bCells] using this

/-- make([]byte, n, m). -/
theorem make_bytes (n m : Nat) (h1 : n ≤ m) (h2 : m ≤ 1073741824) (W : World) :
    (Instr.makeSlice 49 (.int .i64 (n : Int)) (.int .i64 (m : Int))).run Try.prog W = .ok (.slice (some ⟨W.heap.size, 0, none⟩) n m) (W.alloc (.cells (bCells (List.replicate m 0)) 5)) := by
  obtain ⟨i0, hi, hz0, hz1, hz2⟩ := info_parts info5
  have hM : madeCells (Value.int .u8 0).cells ((m : Int).toNat * i0.size) = bCells (List.replicate m 0) := by
    rw [hz1]
    have h3 := toList_madeCells_one (.int .u8 0) m
    apply Array.toList_inj.1
    simpa [bytesV, bCells, Value.cells] using h3
  have h := run_make (P := Try.prog) W 49 5 i0 (.int .u8 0) Try.underlying49 hi hz0 .i64 .i64 (n : Int) (m : Int) (by omega) (by omega) (by rw [hz2]; omega) (by omega)
  rw [hM] at h
  simpa using h

end Go.Proofs.Ytlaoikpbgbckjaa
