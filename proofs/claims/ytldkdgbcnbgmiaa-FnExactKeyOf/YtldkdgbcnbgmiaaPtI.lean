/-
  The walk of the program's ReadPoint.
  (-DROP-: what the seat lacks is left out.)
-/
import Derived.Test.YtldkdgbcnbgmiaaPtC7
import Derived.Test.YtldkdgbcnbgmiaaPtT2
import Derived.Test.YtldkdgbcnbgmiaaOrd
namespace Go.Proofs.Ytldkdgbcnbgmiaa
open Go.RowKit

/-- A text of three bytes that is a point's: it is read so. -/
theorem rd_hit {t : ByteArray} {P : Pt} (hs : t.size = 3) (h : ptText P = t) : rdPt t = (P, true) := by
  by_cases hp : pOkB P = true
  · rw [← h]; exact rdPt_back (pokB.1 hp)
  · exfalso
    have e : ptText P = ⟨#[]⟩ := by
      unfold ptText ptBytes
      rw [if_neg hp]
    rw [← h, e] at hs
    cases hs

/-- The three points that a text can be of. -/
def cand (x v : Int) : Nat → Pt
  | 0 => (x, v, false)
  | 1 => (x, fpSub 0 v, false)
  | _ => pZ

theorem rd_miss {a b c : UInt8} {x : Int} (hx : (a.toNat : Int) * 256 + b.toNat - 1 = x) (h : ∀ j, j < 3 → ptText (cand x (rootV (rhs (fp x))) j) ≠ ⟨#[a, b, c]⟩) : rdPt ⟨#[a, b, c]⟩ = ((0, 0, false), false) := by
  have h0 : ptText (x, rootV (rhs (fp x)), false) ≠ ⟨#[a, b, c]⟩ := h 0 (by decide)
  have h1 : ptText (x, fpSub 0 (rootV (rhs (fp x))), false) ≠ ⟨#[a, b, c]⟩ := h 1 (by decide)
  have h2 : ptText pZ ≠ ⟨#[a, b, c]⟩ := h 2 (by decide)
  show rd3 a b c = _
  unfold rd3
  rw [hx]
  split
  · rename_i e
    obtain ⟨rfl, rfl, rfl⟩ := e
    exact absurd rfl h2
  · split
    · rename_i e
      have hf : fp x = x := fp_small (fi_ok e.1).1 (fi_ok e.1).2
      rw [hf] at h0 h1
      split
      · split
        · rename_i e2
          exfalso
          unfold rdY at e2
          split at e2
          · exact h0 e2
          · exact h1 e2
        · rfl
      · rfl
    · rfl

end Go.Proofs.Ytldkdgbcnbgmiaa
