/-
  Texts of one's own, joined.
-/
import Derived.Test.YthnahalboomkoaaGreatJoined5
import Derived.Test.YthnahalboomkoaaGreatPrfS5

/-
  The walk of the specification's ReadPoint.
  (-DROP-: what the seat lacks is left out.)
-/
namespace Go.Proofs.YthnahalboomkoaaGreat
open Go.RowKit

/-- A result that lives in a block, and one in a slot. -/
theorem result_blkT {P : Program} {fn : Func} {p q : Tmp} {ty t : TypeId} {fs : Array Field} (h : fn.results = #[.cell p ty, .tmp q]) {tmps : Array Value} {w : World} {g : Nat} {cs : Array Value} {v : Value} (hp : tmps.getD p undef = .pointer (some ⟨g, 0, none⟩)) (hq : tmps.getD q undef = v)
    (hA : Blk w g t cs) (hu : P.underlying ty = some (.struct fs)) (hi : (P.info? ty).map (·.size) = some cs.size) : (results fn tmps).run P w = .ok (.tuple #[.agg cs, v]) w := by
  have hl := hA.load hu hi
  have hp' : tmps[p]?.getD undef = .pointer (some ⟨g, 0, none⟩) := by simpa using hp
  have hq' : tmps[q]?.getD undef = v := by simpa using hq
  simp [results, h, hp', hq', asAddr, hl, Result.andThen]

theorem bytes_ne {t : ByteArray} {a b c : UInt8} (h : t ≠ ⟨#[a, b, c]⟩) : (t.toList == [a, b, c]) = false := by
  rw [beq_eq_false_iff_ne, ByteArray.toList_eq]
  intro e
  obtain ⟨d⟩ := t
  obtain ⟨l⟩ := d
  have e' : l = [a, b, c] := e
  subst e'
  exact h rfl

/-- What is read, as a value. -/
def rv (r : Pt × Bool) : Value := .tuple #[pv r.1, .bool r.2]

end Go.Proofs.YthnahalboomkoaaGreat

/-
  Three points out of a text: no program in here.
-/
namespace Go.Proofs.YthnahalboomkoaaGreat

/-- A third of a text. -/
def cut3 (t : ByteArray) (k : Nat) : ByteArray := t.extract (3 * k) (3 * k + 3)
theorem cut3_size (t : ByteArray) (k : Nat) : (cut3 t k).size ≤ 3 := by
  unfold cut3
  rw [ByteArray.size_extract]
  omega
/-- Whether three points are read. -/
def rdOk (t : ByteArray) : Bool := decide (t.size = 9) && ((((rdPt (cut3 t 0)).2 && (rdPt (cut3 t 1)).2) && (rdPt (cut3 t 2)).2) && prfIn (rdPt (cut3 t 0)).1 (rdPt (cut3 t 1)).1 (rdPt (cut3 t 2)).1)
def rdAtP (t : ByteArray) (k : Nat) : Pt := if rdOk t then (rdPt (cut3 t k)).1 else (0, 0, false)
def rdV (t : ByteArray) : Array Value := prfC (rdAtP t 0) (rdAtP t 1) (rdAtP t 2)
theorem rdV_no {t : ByteArray} (h : rdOk t = false) : rdV t = #[.int .i64 0, .int .i64 0, .bool false, .int .i64 0, .int .i64 0, .bool false, .int .i64 0, .int .i64 0, .bool false] := by
  unfold rdV rdAtP
  rw [h]
  rfl
theorem rdV_yes {t : ByteArray} (h : rdOk t = true) : rdV t = prfC (rdPt (cut3 t 0)).1 (rdPt (cut3 t 1)).1 (rdPt (cut3 t 2)).1 := by
  unfold rdV rdAtP
  rw [h]
  rfl

end Go.Proofs.YthnahalboomkoaaGreat
