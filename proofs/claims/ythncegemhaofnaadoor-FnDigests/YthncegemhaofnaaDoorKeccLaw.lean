/-
  The walks of the laws on KeccakRound and KeccakF, and what their rows list of the table.
-/
import Derived.Test.YthncegemhaofnaaDoorRows
import Derived.Test.YthncegemhaofnaaDoorSKecc
import Derived.Lib.LaidTab
import Derived.LaidSub
import Derived.MakeChecks
import Derived.OpenShut
namespace Go.Proofs.YthncegemhaofnaaDoor
open Go.RowKit

theorem gTab : Tryd.prog.globalNamed "loop.example/g00321/impl.roundWords" = some 0 := by kernel_rfl
theorem gTabType : (Tryd.prog.globals[0]?).map (·.type) = some 63 := by kernel_rfl
theorem cellsT : Tryd.prog.cellsOf 63 = 24 := by kernel_rfl
theorem cellsW : Tryd.prog.cellsOf 35 = 1 := by kernel_rfl
theorem rcL_val : ∀ i, i < 24 → wv (rcW i) = ((rcL.getD i 0 : Nat) : Int) := by decide

theorem tab_of {W : World} (h : laidMetH Tryd.prog Rows.fnExactKeccakFRow.laid W) : Tab W := by
  rw [MakeChecks.laidMetH_plain _ _ _ (by kernel_rfl)] at h
  have e : Rows.fnExactKeccakFRow.laid = [("loop.example/g00321/impl.roundWords", Lib.tabData .u64 (rcL.map Int.ofNat))] := by kernel_rfl
  rw [e] at h
  have t := Lib.tabIs_of_head (rest := []) gTab gTabType Tryd.underlying63 Tryd.underlying35 cellsW cellsT h
  have c : ∀ i, i < 24 → W.cell? ⟨0, i, none⟩ = some (.int .u64 (wv (rcW i))) := fun i hi => by
    have := t.cell gTab i (by simpa [rcL] using hi)
    rw [this, rcL_val i hi]
    have hl : i < rcL.length := by simpa [rcL] using hi
    simp only [List.getD_eq_getElem?_getD, List.getElem?_map, List.getElem?_eq_getElem hl, Option.map_some, Option.getD_some]
    rfl
  exact ⟨Nat.lt_of_le_of_lt (Nat.zero_le _) (World.block_lt_of_cell? W _ (c 0 (by omega))), c⟩
theorem fnExactKeccakF_tab {W : World} (h : laidMetH Tryd.prog Rows.fnExactKeccakFRow.laid W) : Tab W := tab_of h
theorem fnExactKeccakRound_tab {W : World} (h : laidMetH Tryd.prog Rows.fnExactKeccakRoundRow.laid W) : Tab W := tab_of h

set_option maxRecDepth 100000 in
theorem lawKF (s : ByteArray) (_hs : s.size ≤ maxLen) (w : World) (hT : Tab w) :
    Calls Tryd.prog 6 #[.string s] w fun e w' => e = .returned (.bool true) ∧ Below w.heap.size w w' := by
  have HT : Hid (Tab w) := hT
  clear hT
  by_cases hb : s.size ≤ 1048576
  · have hb' : ¬ (1048576 : Int) < (s.size : Int) := by omega
    have HI : Hid (∀ w : World, Tab w → Calls Tryd.prog 11 #[.string s] w fun e w' => e = .returned (.string (fullT s)) ∧ Below w.heap.size w w') := fun w h => iKF_any s hb w h
    have HS : Hid (∀ w : World, Calls Tryd.prog 20 #[.string s] w fun e w' => e = .returned (.string (fullT s)) ∧ Below w.heap.size w w') := fun w => sKF_any s w
    generalize fullT s = r at HI HS
    go_enter Tryd.func6, Tryd.ntmps6
    go_wp2_with fail
    refine (HS.out _).mono ?_
    rintro e w1 ⟨rfl, hb1⟩
    go_wp2_with fail
    refine (HI.out _ (HT.out.on hb1 HT.out.1)).mono ?_
    rintro e w2 ⟨rfl, hb2⟩
    go_wp2
    go_ret
    exact ⟨rfl, hb1.trans (hb2.mono hb1.size)⟩
  · have hb' : (1048576 : Int) < (s.size : Int) := by omega
    go_enter Tryd.func6, Tryd.ntmps6
    go_wp2
    go_ret
    exact ⟨rfl, Below.refl _ _⟩

set_option maxRecDepth 100000 in
theorem lawKR (s : ByteArray) (n : Int) (_hs : s.size ≤ maxLen) (_hwf : (Lit.int .i64 n).wf = true) (w : World) (hT : Tab w) :
    Calls Tryd.prog 5 #[.string s, .int .i64 n] w fun e w' => e = .returned (.bool true) ∧ Below w.heap.size w w' := by
  have HT : Hid (Tab w) := hT
  clear hT
  by_cases hb : s.size ≤ 1048576
  · have hb' : ¬ (1048576 : Int) < (s.size : Int) := by omega
    have HI : Hid (∀ w : World, Tab w → Calls Tryd.prog 16 #[.string s, .int .i64 n] w fun e w' => e = .returned (.string (roundT s n)) ∧ Below w.heap.size w w') := fun w h => iKR_any s n hb w h
    have HS : Hid (∀ w : World, Calls Tryd.prog 22 #[.string s, .int .i64 n] w fun e w' => e = .returned (.string (roundT s n)) ∧ Below w.heap.size w w') := fun w => sKR_any s n w
    generalize roundT s n = r at HI HS
    go_enter Tryd.func5, Tryd.ntmps5
    go_wp2_with fail
    refine (HS.out _).mono ?_
    rintro e w1 ⟨rfl, hb1⟩
    go_wp2_with fail
    refine (HI.out _ (HT.out.on hb1 HT.out.1)).mono ?_
    rintro e w2 ⟨rfl, hb2⟩
    go_wp2
    go_ret
    exact ⟨rfl, hb1.trans (hb2.mono hb1.size)⟩
  · have hb' : (1048576 : Int) < (s.size : Int) := by omega
    go_enter Tryd.func5, Tryd.ntmps5
    go_wp2
    go_ret
    exact ⟨rfl, Below.refl _ _⟩

end Go.Proofs.YthncegemhaofnaaDoor
