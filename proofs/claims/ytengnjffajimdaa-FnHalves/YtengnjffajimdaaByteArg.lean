/-
  What an argument of bytes is to the walk.
-/
import Derived.Test.YtengnjffajimdaaCur
import Derived.OpenShut
namespace Go.Proofs.Ytengnjffajimdaa
open Go.RowKit Go.ChangeShapes Go.WideShapes

theorem argAt_of {W : World} {x : Addr} {zs : List Int} {len cap : Nat} (hl : len ≤ cap) (hz : zs.length = cap) (hcell : ∀ i, i < zs.length → W.cell? (x.add i) = some (.int .u8 (zs.getD i 0))) (hwz : ∀ n ∈ zs, (Lit.int .u8 n).wf = true) : ArgAt W (some x) len W.heap.size := by
  intro j hj
  obtain ⟨b, off, spot⟩ := x
  have hspot : spot = none := by simpa [Addr.add] using World.cell?_spot (hcell 0 (by omega))
  subst hspot
  have hc := hcell j (by omega)
  have hc0 : W.cell? ⟨b, off + j, none⟩ = some (.int .u8 (zs.getD j 0)) := by rw [← Addr.add_lit]; exact hc
  have hlt := World.block_lt_of_cell? W _ hc0
  have hb := bounds_u8 (hwz (zs.getD j 0) (by rw [List.getD_eq_getElem?_getD, List.getElem?_eq_getElem (by omega)]; simp))
  exact ⟨b, off, _, rfl, hlt, hc0, hb.1, hb.2⟩


end Go.Proofs.Ytengnjffajimdaa
