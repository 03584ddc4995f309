/-
  The walk of the specification's ReadPoint.
  (-DROP-: what the seat lacks is left out.)
-/
import Derived.Test.YtldkdgbcnbgmiaaPtT
namespace Go.Proofs.Ytldkdgbcnbgmiaa
open Go.RowKit

/-- A result that lives in a block, and one in a slot. -/
theorem result_blkT {P : Program} {fn : Func} {p q : Tmp} {ty t : TypeId} {fs : Array Field} (h : fn.results = #[.cell p ty, .tmp q]) {tmps : Array Value} {w : World} {g : Nat} {cs : Array Value} {v : Value} (hp : tmps.getD p undef = .pointer (some ⟨g, 0, none⟩)) (hq : tmps.getD q undef = v)
    (hA : Blk w g t cs) (hu : P.underlying ty = some (.struct fs)) (hi : (P.info? ty).map (·.size) = some cs.size) : (results fn tmps).run P w = .ok (.tuple #[.agg cs, v]) w := by
  have hl := hA.load hu hi
  have hp' : tmps[p]?.getD undef = .pointer (some ⟨g, 0, none⟩) := by simpa using hp
  have hq' : tmps[q]?.getD undef = v := by simpa using hq
  simp [results, h, hp', hq', asAddr, hl, Result.andThen]

theorem bytes_ne {t : ByteArray} {a b c : UInt8} (h : t ≠ ⟨#[a, b, c]⟩) : (t.toList == [a, b, c]) = false := by
  rw [beq_eq_false_iff_ne, ByteArray.toList_eq]
  intro e
  obtain ⟨d⟩ := t
  obtain ⟨l⟩ := d
  have e' : l = [a, b, c] := e
  subst e'
  exact h rfl

/-- What is read, as a value. -/
def rv (r : Pt × Bool) : Value := .tuple #[pv r.1, .bool r.2]

end Go.Proofs.Ytldkdgbcnbgmiaa
