/-
  Lists of ints that lie below a block.
-/
import Derived.Below
import Derived.ProofKit
import Derived.Test.YtengnjffajimdaaProg
namespace Go.Proofs.Ytengnjffajimdaa
open Go.RowKit

theorem mixesSc : Try.prog.follows .mixedOrders = true := by kernel_rfl

/-- What a list of ints holds; it lies below block c. -/
def IntsAt (w : World) (a : Option Addr) (len c : Nat) (f : Nat → Int) : Prop :=
  ∀ j, j < len → ∃ b off, a = some ⟨b, off, none⟩ ∧ b < c ∧ w.cell? ⟨b, off + j, none⟩ = some (.int .i64 (f j))

theorem IntsAt.on {w w1 : World} {a : Option Addr} {len c : Nat} {f : Nat → Int} (h : IntsAt w a len c f) (hb : Below c w w1) : IntsAt w1 a len c f := fun j hj => by
  obtain ⟨b, off, h1, h2, h3⟩ := h j hj
  exact ⟨b, off, h1, h2, (hb.cell (p := ⟨b, off + j, none⟩) h2).trans h3⟩

theorem IntsAt.wide {w : World} {a : Option Addr} {len c d : Nat} {f : Nat → Int} (h : IntsAt w a len c f) (hd : c ≤ d) : IntsAt w a len d f := fun j hj => by
  obtain ⟨b, off, h1, h2, h3⟩ := h j hj
  exact ⟨b, off, h1, by omega, h3⟩

end Go.Proofs.Ytengnjffajimdaa
