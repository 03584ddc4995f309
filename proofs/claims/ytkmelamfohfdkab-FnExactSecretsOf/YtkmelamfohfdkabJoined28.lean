/-
  Texts of one's own, joined.
-/
import Derived.Test.YtkmelamfohfdkabJoined27
import Derived.Test.YtkmelamfohfdkabJoined21
import Derived.OpenShut

/-
  The walk of the program's ReadPoint.
  (-DROP-: what the seat lacks is left out.)
-/
namespace Go.Proofs.Ytkmelamfohfdkab
open Go.RowKit

/-- A text of three bytes that is a point's: it is read so. -/
theorem rd_hit {t : ByteArray} {P : Pt} (hs : t.size = 3) (h : ptText P = t) : rdPt t = (P, true) := by
  by_cases hp : pOkB P = true
  · rw [← h]; exact rdPt_back (pokB.1 hp)
  · exfalso
    have e : ptText P = ⟨#[]⟩ := by
      unfold ptText ptBytes
      rw [if_neg hp]
    rw [← h, e] at hs
    cases hs

/-- The three points that a text can be of. -/
def cand (x v : Int) : Nat → Pt
  | 0 => (x, v, false)
  | 1 => (x, fpSub 0 v, false)
  | _ => pZ

theorem rd_miss {a b c : UInt8} {x : Int} (hx : (a.toNat : Int) * 256 + b.toNat - 1 = x) (h : ∀ j, j < 3 → ptText (cand x (rootV (rhs (fp x))) j) ≠ ⟨#[a, b, c]⟩) : rdPt ⟨#[a, b, c]⟩ = ((0, 0, false), false) := by
  have h0 : ptText (x, rootV (rhs (fp x)), false) ≠ ⟨#[a, b, c]⟩ := h 0 (by decide)
  have h1 : ptText (x, fpSub 0 (rootV (rhs (fp x))), false) ≠ ⟨#[a, b, c]⟩ := h 1 (by decide)
  have h2 : ptText pZ ≠ ⟨#[a, b, c]⟩ := h 2 (by decide)
  show rd3 a b c = _
  unfold rd3
  rw [hx]
  split
  · rename_i e
    obtain ⟨rfl, rfl, rfl⟩ := e
    exact absurd rfl h2
  · split
    · rename_i e
      have hf : fp x = x := fp_small (fi_ok e.1).1 (fi_ok e.1).2
      rw [hf] at h0 h1
      split
      · split
        · rename_i e2
          exfalso
          unfold rdY at e2
          split at e2
          · exact h0 e2
          · exact h1 e2
        · rfl
      · rfl
    · rfl

end Go.Proofs.Ytkmelamfohfdkab

/-
  The walks of the laws on the functions of points.
  (-DROP-: what the seat lacks is left out.)
-/
namespace Go.Proofs.Ytkmelamfohfdkab
open Go.RowKit Go.ChangeShapes Go.WideShapes

theorem infoLP : (Try.prog.info? 57).map (·.size) = some 3 := by kernel_rfl

set_option maxHeartbeats 800000 in
set_option maxRecDepth 100000 in
theorem toPoint_any (P : Pt) (w : World) :
    Calls Try.prog 38 #[pv P] w fun e w' => e = .returned (pv P) ∧ Below w.heap.size w w' := by
  go_enter Try.func38, Try.ntmps38
  go_wp2
  obtain ⟨W, hW, hb, hx, hr, hv⟩ := boxes2r w 57 49 49 #[.int .i64 P.1, .int .i64 P.2.1, .bool P.2.2] #[.int .i64 P.1, .int .i64 P.2.1, .bool P.2.2] #[.int .i64 P.1, .int .i64 P.2.1, .bool P.2.2]
  rw [hW]
  refine bodyPost_ret_by (result_blk rfl rfl hr Try.underlying49 infoP) rfl ⟨rfl, hb⟩

set_option maxHeartbeats 800000 in
set_option maxRecDepth 100000 in
theorem eqPoint_same (P : Pt) (w : World) :
    Calls Try.prog 34 #[pv P, pv P] w fun e w' => e = .returned (.bool true) ∧ Below w.heap.size w w' := by
  go_enter Try.func34, Try.ntmps34
  go_wp2
  go_ret
  exact ⟨rfl, ((Below.refl _ _).alloc (Nat.le_refl _) _).alloc (by simp) _⟩

end Go.Proofs.Ytkmelamfohfdkab
