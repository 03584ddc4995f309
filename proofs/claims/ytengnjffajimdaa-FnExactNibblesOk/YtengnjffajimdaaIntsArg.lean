/-
  What an argument of ints is to the walk.
-/
import Derived.Test.YtengnjffajimdaaScArg
import Derived.OpenShut
namespace Go.Proofs.Ytengnjffajimdaa
open Go.RowKit Go.ChangeShapes Go.WideShapes

theorem intsAt_of {W : World} {x : Addr} {zs : List Int} {len cap : Nat} (hl : len ≤ cap) (hz : zs.length = cap) (hcell : ∀ i, i < zs.length → W.cell? (x.add i) = some (.int .i64 (zs.getD i 0))) : IntsAt W (some x) len W.heap.size (fun j => zs.getD j 0) := by
  intro j hj
  obtain ⟨b, off, spot⟩ := x
  have hspot : spot = none := by simpa [Addr.add] using World.cell?_spot (hcell 0 (by omega))
  subst hspot
  have hc0 : W.cell? ⟨b, off + j, none⟩ = some (.int .i64 (zs.getD j 0)) := by rw [← Addr.add_lit]; exact hcell j (by omega)
  exact ⟨b, off, rfl, World.block_lt_of_cell? W _ hc0, hc0⟩

end Go.Proofs.Ytengnjffajimdaa
