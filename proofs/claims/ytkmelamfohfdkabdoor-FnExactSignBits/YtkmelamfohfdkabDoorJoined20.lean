/-
  Texts of one's own, joined.
-/
import Derived.Test.YtkmelamfohfdkabDoorPtS2
import Derived.Test.YtkmelamfohfdkabDoorJoined11
import Derived.Test.YtkmelamfohfdkabDoorJoined16
import Derived.Test.YtkmelamfohfdkabDoorJoined17
import Derived.Test.YtkmelamfohfdkabDoorJoined10
import Derived.Test.YtkmelamfohfdkabDoorJoined14

/-
  The walks of the specification's points: the group, sums of lists.
  (-DROP-: what the seat lacks is left out.)
-/
namespace Go.Proofs.YtkmelamfohfdkabDoor
open Go.RowKit

/-- A field of a point. -/
theorem zero_field (a b : Int) (c : Bool) (w : World) : (Instr.field 23 (.agg #[.int .i64 a, .int .i64 b, .bool c]) 2).run Tryd.prog w = .ok (.bool c) w := by
  kernel_rfl

/-- What a list of points holds; it lies below block c. -/
def PtsAt (w : World) (a : Option Addr) (len c : Nat) (f : Nat → Pt) : Prop :=
  ∀ j, j < len → ∃ b off, a = some ⟨b, off, none⟩ ∧ b < c ∧ w.cell? ⟨b, off + j * 3, none⟩ = some (.int .i64 (f j).1) ∧ w.cell? ⟨b, off + j * 3 + 1, none⟩ = some (.int .i64 (f j).2.1) ∧ w.cell? ⟨b, off + j * 3 + 2, none⟩ = some (.bool (f j).2.2)

theorem PtsAt.on {w w1 : World} {a : Option Addr} {len c : Nat} {f : Nat → Pt} (h : PtsAt w a len c f) (hb : Below c w w1) : PtsAt w1 a len c f := fun j hj => by
  obtain ⟨b, off, h1, h2, h3, h4, h5⟩ := h j hj
  exact ⟨b, off, h1, h2, (hb.cell (p := ⟨b, off + j * 3, none⟩) h2).trans h3, (hb.cell (p := ⟨b, off + j * 3 + 1, none⟩) h2).trans h4, (hb.cell (p := ⟨b, off + j * 3 + 2, none⟩) h2).trans h5⟩

theorem PtsAt.wide {w : World} {a : Option Addr} {len c d : Nat} {f : Nat → Pt} (h : PtsAt w a len c f) (hd : c ≤ d) : PtsAt w a len d f := fun j hj => by
  obtain ⟨b, off, h1, h2, h3⟩ := h j hj
  exact ⟨b, off, h1, by omega, h3⟩

/-- The first n of a list put together. -/
def sumN (f : Nat → Pt) : Nat → Pt
  | 0 => pZ
  | n + 1 => pSum (sumN f n) (f n)

end Go.Proofs.YtkmelamfohfdkabDoor

/-
  The walks of the specification's points: their texts.
  (-DROP-: what the seat lacks is left out.)
-/
namespace Go.Proofs.YtkmelamfohfdkabDoor
open Go.RowKit

/-- Three bytes in a row as a text. -/
theorem text3 (a b c : Nat) (ha : a < 256) (hb : b < 256) (hc : c < 256) (W : World) :
    (convert 45 9 (.slice (some ⟨W.heap.size, 0, none⟩) 3 3)).run Tryd.prog (W.alloc (.cells #[.int .u8 (a : Int), .int .u8 (b : Int), .int .u8 (c : Int)] 5)) = .ok (.string ⟨#[UInt8.ofNat a, UInt8.ofNat b, UInt8.ofNat c]⟩) (W.alloc (.cells #[.int .u8 (a : Int), .int .u8 (b : Int), .int .u8 (c : Int)] 5)) := by
  have h := World.ownsRow_lit (base := W.heap.size) (e := 5) (size := 1) W #[.int .u8 (a : Int), .int .u8 (b : Int), .int .u8 (c : Int)] 3 (Nat.le_refl _) (by simp [maxLen]) (by simp)
  have e : (#[Value.int .u8 (a : Int), .int .u8 (b : Int), .int .u8 (c : Int)]).toList = bytesV [UInt8.ofNat a, UInt8.ofNat b, UInt8.ofNat c] := by
    simp only [bytesV, List.map_cons, List.map_nil, toNat_of ha, toNat_of hb, toNat_of hc]
  rw [e] at h
  exact text_of_row (l := [UInt8.ofNat a, UInt8.ofNat b, UInt8.ofNat c]) h

end Go.Proofs.YtkmelamfohfdkabDoor

/-
  The walk of the specification's ReadPoint.
  (-DROP-: what the seat lacks is left out.)
-/
namespace Go.Proofs.YtkmelamfohfdkabDoor
open Go.RowKit

/-- A result that lives in a block, and one in a slot. -/
theorem result_blkT {P : Program} {fn : Func} {p q : Tmp} {ty t : TypeId} {fs : Array Field} (h : fn.results = #[.cell p ty, .tmp q]) {tmps : Array Value} {w : World} {g : Nat} {cs : Array Value} {v : Value} (hp : tmps.getD p undef = .pointer (some ⟨g, 0, none⟩)) (hq : tmps.getD q undef = v)
    (hA : Blk w g t cs) (hu : P.underlying ty = some (.struct fs)) (hi : (P.info? ty).map (·.size) = some cs.size) : (results fn tmps).run P w = .ok (.tuple #[.agg cs, v]) w := by
  have hl := hA.load hu hi
  have hp' : tmps[p]?.getD undef = .pointer (some ⟨g, 0, none⟩) := by simpa using hp
  have hq' : tmps[q]?.getD undef = v := by simpa using hq
  simp [results, h, hp', hq', asAddr, hl, Result.andThen]

theorem bytes_ne {t : ByteArray} {a b c : UInt8} (h : t ≠ ⟨#[a, b, c]⟩) : (t.toList == [a, b, c]) = false := by
  rw [beq_eq_false_iff_ne, ByteArray.toList_eq]
  intro e
  obtain ⟨d⟩ := t
  obtain ⟨l⟩ := d
  have e' : l = [a, b, c] := e
  subst e'
  exact h rfl

/-- What is read, as a value. -/
def rv (r : Pt × Bool) : Value := .tuple #[pv r.1, .bool r.2]

end Go.Proofs.YtkmelamfohfdkabDoor

/-
  The walks of the specification's committees: whether one is right, its text.
  (-DROP-: what the seat lacks is left out.)
-/
namespace Go.Proofs.YtkmelamfohfdkabDoor
open Go.RowKit

theorem ptText_three (P : Pt) : (ptText P).size ≤ 3 := by
  show (ptBytes P).toArray.size ≤ 3
  unfold ptBytes
  split
  · split <;> simp
  · simp
theorem txN_size (f : Nat → Pt) : ∀ n, (txN f n).size ≤ 3 * n
  | 0 => Nat.zero_le _
  | n + 1 => by
    show (txN f n ++ ptText (f n)).size ≤ _
    rw [ByteArray.size_append]
    have := txN_size f n
    have := ptText_three (f n)
    omega

/-- The text of a committee. -/
def cTxt (f : Nat → Pt) (n : Nat) : ByteArray := txN f n ++ ptText (sumN f n)
def cTextV (f : Nat → Pt) (n : Nat) : ByteArray × Bool := if cOk f n = true then (cTxt f n, true) else (noT, false)

theorem PtsAt.over {w W : World} {a : Option Addr} {n : Nat} {f : Nat → Pt} (h : PtsAt w a n w.heap.size f) (hb : Below w.heap.size w W) : PtsAt W a n W.heap.size f := fun j hj => by
  obtain ⟨b, off, h1, h2, h3⟩ := (h.on hb) j hj
  exact ⟨b, off, h1, by have := hb.size; omega, h3⟩

end Go.Proofs.YtkmelamfohfdkabDoor

/-
  Keys, and what they sign.
-/
namespace Go.Proofs.YtkmelamfohfdkabDoor

/-- The key of a secret, and what it signs. -/
def keyP (k : Int) : Pt := pTimes (sca k) pB
def signP (k : Int) (H : Pt) : Pt := pTimes (sca k) H

theorem sca_nat (k : Int) : sca k = (scn k : Int) ∧ scn k < 1009 := by
  have h0 := sca_nonneg k
  have h1 := sca_lt k
  unfold scn
  omega

theorem key_mul (k : Int) : keyP k = pMul pB (scn k) := by
  unfold keyP
  obtain ⟨h1, h2⟩ := sca_nat k
  rw [h1, ptimes_small pb_ok (by omega)]

end Go.Proofs.YtkmelamfohfdkabDoor
