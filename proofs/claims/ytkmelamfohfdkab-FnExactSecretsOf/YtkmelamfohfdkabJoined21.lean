/-
  Texts of one's own, joined.
-/
import Derived.Test.YtkmelamfohfdkabPtS2
import Derived.Test.YtkmelamfohfdkabProg
import Derived.WalkKit

/-
  The walks of the specification's points: the group, sums of lists.
  (-DROP-: what the seat lacks is left out.)
-/
namespace Go.Proofs.Ytkmelamfohfdkab
open Go.RowKit

/-- A field of a point. -/
theorem zero_field (a b : Int) (c : Bool) (w : World) : (Instr.field 49 (.agg #[.int .i64 a, .int .i64 b, .bool c]) 2).run Try.prog w = .ok (.bool c) w := by
  kernel_rfl

set_option maxHeartbeats 800000 in
set_option maxRecDepth 100000 in
theorem sInG_any (P : Pt) (w : World) :
    Calls Try.prog 37 #[pv P] w fun e w' => e = .returned (.bool (inGB P)) ∧ Below w.heap.size w w' := by
  have HP : Hid (∀ w, Calls Try.prog 47 #[pv P] w fun e w' => e = .returned (.bool (pOkB P)) ∧ Below w.heap.size w w') := sPOk_any P
  have HT : Hid (∀ w, Calls Try.prog 41 #[.int .i64 1009, pv P] w fun e w' => e = .returned (pv (pTimes 1009 P)) ∧ Below w.heap.size w w') := sTimes_any 1009 P
  unfold inGB
  generalize pOkB P = a at HP ⊢
  generalize pTimes 1009 P = T at HT ⊢
  obtain ⟨x, y, z⟩ := P
  unfold pv at HP HT ⊢
  simp only at HP HT ⊢
  cases a
  · go_enter Try.func37, Try.ntmps37
    go_wp2_with fail
    obtain ⟨W, hW, hb, hx⟩ := box1 w 49 #[.int .i64 x, .int .i64 y, .bool z]
    rw [hW]
    clear hW
    refine (HP.out _).mono ?_
    rintro e w1 ⟨rfl, hb1⟩
    have hB1 := below_then hb hb1
    clear hb hb1 hx
    go_wp2
    go_ret
    exact ⟨rfl, hB1⟩
  · go_enter Try.func37, Try.ntmps37
    go_wp2_with fail
    obtain ⟨W, hW, hb, hx⟩ := box1 w 49 #[.int .i64 x, .int .i64 y, .bool z]
    rw [hW]
    clear hW
    refine (HP.out _).mono ?_
    rintro e w1 ⟨rfl, hb1⟩
    have hx1 := hx.on hb1 hx.lt
    have hB1 := below_then hb hb1
    have q0 := hx1.cell 0
    have q1 := hx1.cell 1
    have q2 := hx1.cell 2
    clear hb hb1 hx
    go_wp2_with fail
    refine (HT.out _).mono ?_
    rintro e w2 ⟨rfl, hb2⟩
    have hB2 := below_then hB1 hb2
    have hfd := zero_field
    clear hx1 hB1 hb2 q0 q1 q2
    go_wp2
    go_ret
    exact ⟨rfl, hB2⟩

/-- What a list of points holds; it lies below block c. -/
def PtsAt (w : World) (a : Option Addr) (len c : Nat) (f : Nat → Pt) : Prop :=
  ∀ j, j < len → ∃ b off, a = some ⟨b, off, none⟩ ∧ b < c ∧ w.cell? ⟨b, off + j * 3, none⟩ = some (.int .i64 (f j).1) ∧ w.cell? ⟨b, off + j * 3 + 1, none⟩ = some (.int .i64 (f j).2.1) ∧ w.cell? ⟨b, off + j * 3 + 2, none⟩ = some (.bool (f j).2.2)

theorem PtsAt.on {w w1 : World} {a : Option Addr} {len c : Nat} {f : Nat → Pt} (h : PtsAt w a len c f) (hb : Below c w w1) : PtsAt w1 a len c f := fun j hj => by
  obtain ⟨b, off, h1, h2, h3, h4, h5⟩ := h j hj
  exact ⟨b, off, h1, h2, (hb.cell (p := ⟨b, off + j * 3, none⟩) h2).trans h3, (hb.cell (p := ⟨b, off + j * 3 + 1, none⟩) h2).trans h4, (hb.cell (p := ⟨b, off + j * 3 + 2, none⟩) h2).trans h5⟩

theorem PtsAt.wide {w : World} {a : Option Addr} {len c d : Nat} {f : Nat → Pt} (h : PtsAt w a len c f) (hd : c ≤ d) : PtsAt w a len d f := fun j hj => by
  obtain ⟨b, off, h1, h2, h3⟩ := h j hj
  exact ⟨b, off, h1, by omega, h3⟩

/-- The first n of a list put together. -/
def sumN (f : Nat → Pt) : Nat → Pt
  | 0 => pZ
  | n + 1 => pSum (sumN f n) (f n)

end Go.Proofs.Ytkmelamfohfdkab

/-
  Rows of bytes.
-/
namespace Go.Proofs.Ytkmelamfohfdkab
open Go.RowKit

def bytesV (l : List UInt8) : List Value := l.map fun c => .int .u8 (c.toNat : Int)
theorem bytesV_append (a b : List UInt8) : bytesV (a ++ b) = bytesV a ++ bytesV b := by simp [bytesV]
theorem bytesV_length (a : List UInt8) : (bytesV a).length = a.length := by simp [bytesV]
theorem toNat_of {n : Nat} (h : n < 256) : (UInt8.ofNat n).toNat = n := by simp; omega
theorem bytesV_one {n : Nat} (h : n < 256) : bytesV [UInt8.ofNat n] = [.int .u8 (n : Int)] := by simp only [bytesV, List.map_cons, List.map_nil, toNat_of h]

theorem row_form {w : World} {B e sz n : Nat} {v : Value} {xs : List Value} (h : w.ownsRow B e sz v n xs) : ∃ a cap, v = .slice a n cap := by
  rcases h.2 with ⟨rfl, h0⟩ | ⟨g, cap, cur, rfl, _⟩
  · subst h0; exact ⟨_, _, rfl⟩
  · exact ⟨_, _, rfl⟩

theorem one_cell (k : IntKind) (z : Int) : ∀ u ∈ [Value.int k z], u.oneCell' = true := by
  intro u hu; simp at hu; subst hu; rfl
theorem room_for {B : Nat} {w : World} (h : B ≤ w.heap.size) (o : Obj) : B ≤ (w.alloc o).heap.size := by simp; omega

theorem cells_of_row {w : World} {B e g cap : Nat} {l : List UInt8} (h : w.ownsRow B e 1 (.slice (some ⟨g, 0, none⟩) l.length cap) l.length (bytesV l)) :
    ∀ j (hj : j < l.length), w.cell? ((⟨g, 0, none⟩ : Addr).add j) = some (.int .u8 (l[j].toNat : Int)) := fun j hj => by
  rw [Addr.add_lit, Nat.zero_add, h.cellAt j (by omega)]
  simp [bytesV, hj]

theorem info5 : (Try.prog.info? 5).map (fun i => (i.zero, i.size, i.bytes)) = some (some (.int .u8 0), 1, 1) := by kernel_rfl

/-- A value is a row of these bytes, owned from B on. -/
def RowB (B : Nat) (w : World) (v : Value) (l : List UInt8) : Prop := w.ownsRow B 5 1 v l.length (bytesV l)

/-- What one append of a byte leaves. -/
theorem push_b {w wr w1 W : World} {B e : Nat} {v v' : Value} {pre : List UInt8} {b : UInt8} {z : Int} (hz : z = (b.toNat : Int)) (hB : B ≤ W.heap.size) (hbel : Below B w W) (hown : wr.ownsRow B e 1 v pre.length (bytesV pre))
    (hown' : w1.ownsRow B e 1 v' (pre.length + 1) (bytesV pre ++ [Value.int .u8 z])) (hgrow : W.grownBy w1 v.ownBlock) :
    w1.ownsRow B e 1 v' (pre ++ [b]).length (bytesV (pre ++ [b])) ∧ Below B w w1 := by
  refine ⟨?_, hbel.grown hgrow hB (fun k hk => (hown.lt k hk).1)⟩
  rw [bytesV_append, List.length_append]
  subst hz
  exact hown'

/-- A row of bytes as the cells of a block. -/
def bCells (l : List UInt8) : Array Value := (bytesV l).toArray
theorem bCells_size (l : List UInt8) : (bCells l).size = l.length := by simp [bCells, bytesV]
theorem bCells_at (l : List UInt8) (i : Nat) (h : i < l.length) : (bCells l)[i]? = some (.int .u8 ((l.getD i 0).toNat : Int)) := by
  simp [bCells, bytesV, List.getD_eq_getElem?_getD, h]
theorem bCells_set (l : List UInt8) (i : Nat) (b : UInt8) : (bCells l).setIfInBounds i (.int .u8 (b.toNat : Int)) = bCells (l.set i b) := by
  simp [bCells, bytesV, List.map_set]
theorem bCells_zero (n : Nat) : (Array.replicate n (Value.int .u8 0)) = bCells (List.replicate n 0) := by
  simp [bCells, bytesV]
theorem owns_cells (w : World) (l : List UInt8) (h : l.length ≤ 4611686018427387904) :
    (w.alloc (.cells (bCells l) 5)).ownsRow w.heap.size 5 1 (.slice (some ⟨w.heap.size, 0, none⟩) l.length l.length) l.length (bytesV l) := by
  have := World.ownsRow_lit (base := w.heap.size) (e := 5) (size := 1) w (bCells l) l.length (Nat.le_refl _) (by unfold maxLen; omega) (by simp [bCells_size])
  simpa [bCells] using this

end Go.Proofs.Ytkmelamfohfdkab

/-
  The walks of the specification's points: their texts.
  (-DROP-: what the seat lacks is left out.)
-/
namespace Go.Proofs.Ytkmelamfohfdkab
open Go.RowKit

end Go.Proofs.Ytkmelamfohfdkab

/-
  The walk of the specification's ReadPoint.
  (-DROP-: what the seat lacks is left out.)
-/
namespace Go.Proofs.Ytkmelamfohfdkab
open Go.RowKit

/-- A result that lives in a block, and one in a slot. -/
theorem result_blkT {P : Program} {fn : Func} {p q : Tmp} {ty t : TypeId} {fs : Array Field} (h : fn.results = #[.cell p ty, .tmp q]) {tmps : Array Value} {w : World} {g : Nat} {cs : Array Value} {v : Value} (hp : tmps.getD p undef = .pointer (some ⟨g, 0, none⟩)) (hq : tmps.getD q undef = v)
    (hA : Blk w g t cs) (hu : P.underlying ty = some (.struct fs)) (hi : (P.info? ty).map (·.size) = some cs.size) : (results fn tmps).run P w = .ok (.tuple #[.agg cs, v]) w := by
  have hl := hA.load hu hi
  have hp' : tmps[p]?.getD undef = .pointer (some ⟨g, 0, none⟩) := by simpa using hp
  have hq' : tmps[q]?.getD undef = v := by simpa using hq
  simp [results, h, hp', hq', asAddr, hl, Result.andThen]

theorem bytes_ne {t : ByteArray} {a b c : UInt8} (h : t ≠ ⟨#[a, b, c]⟩) : (t.toList == [a, b, c]) = false := by
  rw [beq_eq_false_iff_ne, ByteArray.toList_eq]
  intro e
  obtain ⟨d⟩ := t
  obtain ⟨l⟩ := d
  have e' : l = [a, b, c] := e
  subst e'
  exact h rfl

/-- What is read, as a value. -/
def rv (r : Pt × Bool) : Value := .tuple #[pv r.1, .bool r.2]

end Go.Proofs.Ytkmelamfohfdkab
