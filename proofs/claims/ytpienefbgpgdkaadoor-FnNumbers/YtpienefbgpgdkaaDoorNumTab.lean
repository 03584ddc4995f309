/-
  What the row of FnNumbers lists of the table of powers of ten, and what its argument is.
-/
import Derived.Test.YtpienefbgpgdkaaDoorRows
import Derived.Test.YtpienefbgpgdkaaDoorNumLaw
import Derived.Lib.LaidTab
import Derived.LaidSub
import Derived.MakeChecks
import Derived.OpenShut
namespace Go.Proofs.YtpienefbgpgdkaaDoor

theorem gPow : Tryd.prog.globalNamed "internal/strconv.uint64pow10" = some 0 := by kernel_rfl
theorem gPowType : (Tryd.prog.globals[0]?).map (·.type) = some 61 := by kernel_rfl
theorem cells61 : Tryd.prog.cellsOf 61 = 20 := by kernel_rfl
theorem cellsU : Tryd.prog.cellsOf (Tryd.prog.elem 61) = 1 := by kernel_rfl

theorem fnNumbers_tab {W : World} (h : laidMetH Tryd.prog Rows.fnNumbersRow.laid W) : Lib.TabIs Tryd.prog W "internal/strconv.uint64pow10" .u64 Lib.pow10Tab := by
  rw [MakeChecks.laidMetH_plain _ _ _ (by kernel_rfl)] at h
  have h2 := laidMet.filter (fun x => x.1 == "internal/strconv.uint64pow10") h
  have e : (Rows.fnNumbersRow.laid.filter fun x => x.1 == "internal/strconv.uint64pow10") = [("internal/strconv.uint64pow10", Lib.tabData .u64 Lib.pow10Tab)] := by kernel_rfl
  rw [e] at h2
  exact Lib.tabIs_of_head (rest := []) gPow gPowType Tryd.underlying61 (show Tryd.prog.underlying (Tryd.prog.elem 61) = some (.int .u64) by kernel_rfl) cellsU cells61 h2

theorem argAt_of {W : World} {x : Addr} {zs : List Int} {len cap : Nat} (hl : len ≤ cap) (hz : zs.length = cap) (hcell : ∀ i, i < zs.length → W.cell? (x.add i) = some (.int .u8 (zs.getD i 0))) (hwz : ∀ n ∈ zs, (Lit.int .u8 n).wf = true) : ArgAt W (some x) len W.heap.size := by
  intro j hj
  obtain ⟨b, off, spot⟩ := x
  have hspot : spot = none := by simpa [Addr.add] using World.cell?_spot (hcell 0 (by omega))
  subst hspot
  have hc := hcell j (by omega)
  have hc0 : W.cell? ⟨b, off + j, none⟩ = some (.int .u8 (zs.getD j 0)) := by rw [← Addr.add_lit]; exact hc
  have hlt := World.block_lt_of_cell? W _ hc0
  have hb := bounds_u8 (hwz (zs.getD j 0) (by rw [List.getD_eq_getElem?_getD, List.getElem?_eq_getElem (by omega)]; simp))
  exact ⟨b, off, _, rfl, hlt, hc0, hb.1, hb.2⟩

end Go.Proofs.YtpienefbgpgdkaaDoor
