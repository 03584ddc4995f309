/-
  The walks of the specification's points: the group, sums of lists.
  (-DROP-: what the seat lacks is left out.)
-/
import Derived.Test.YtldkdgbcnbgmiaaPtS2
namespace Go.Proofs.Ytldkdgbcnbgmiaa
open Go.RowKit

/-- A field of a point. -/
theorem zero_field (a b : Int) (c : Bool) (w : World) : (Instr.field 23 (.agg #[.int .i64 a, .int .i64 b, .bool c]) 2).run Try.prog w = .ok (.bool c) w := by
  kernel_rfl

/-- What a list of points holds; it lies below block c. -/
def PtsAt (w : World) (a : Option Addr) (len c : Nat) (f : Nat → Pt) : Prop :=
  ∀ j, j < len → ∃ b off, a = some ⟨b, off, none⟩ ∧ b < c ∧ w.cell? ⟨b, off + j * 3, none⟩ = some (.int .i64 (f j).1) ∧ w.cell? ⟨b, off + j * 3 + 1, none⟩ = some (.int .i64 (f j).2.1) ∧ w.cell? ⟨b, off + j * 3 + 2, none⟩ = some (.bool (f j).2.2)

theorem PtsAt.on {w w1 : World} {a : Option Addr} {len c : Nat} {f : Nat → Pt} (h : PtsAt w a len c f) (hb : Below c w w1) : PtsAt w1 a len c f := fun j hj => by
  obtain ⟨b, off, h1, h2, h3, h4, h5⟩ := h j hj
  exact ⟨b, off, h1, h2, (hb.cell (p := ⟨b, off + j * 3, none⟩) h2).trans h3, (hb.cell (p := ⟨b, off + j * 3 + 1, none⟩) h2).trans h4, (hb.cell (p := ⟨b, off + j * 3 + 2, none⟩) h2).trans h5⟩

theorem PtsAt.wide {w : World} {a : Option Addr} {len c d : Nat} {f : Nat → Pt} (h : PtsAt w a len c f) (hd : c ≤ d) : PtsAt w a len d f := fun j hj => by
  obtain ⟨b, off, h1, h2, h3⟩ := h j hj
  exact ⟨b, off, h1, by omega, h3⟩

/-- The first n of a list put together. -/
def sumN (f : Nat → Pt) : Nat → Pt
  | 0 => pZ
  | n + 1 => pSum (sumN f n) (f n)

end Go.Proofs.Ytldkdgbcnbgmiaa
