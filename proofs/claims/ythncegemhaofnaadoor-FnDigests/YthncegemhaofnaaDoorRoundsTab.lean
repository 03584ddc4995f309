/-
  What the rows of the laws on rounds and digests list of the table.
-/
import Derived.Test.YthncegemhaofnaaDoorKeccLaw
namespace Go.Proofs.YthncegemhaofnaaDoor

theorem fnRounds_tab {W : World} (h : laidMetH Tryd.prog Rows.fnRoundsRow.laid W) : Tab W := tab_of h
theorem fnDigests_tab {W : World} (h : laidMetH Tryd.prog Rows.fnDigestsRow.laid W) : Tab W := tab_of h

end Go.Proofs.YthncegemhaofnaaDoor
