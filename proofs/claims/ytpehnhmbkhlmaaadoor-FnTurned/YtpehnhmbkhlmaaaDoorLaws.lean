/-
  The walks of the four exact laws of chapter 2, and what their rows list of the table.
-/
import Derived.Test.YtpehnhmbkhlmaaaDoorRows
import Derived.Test.YtpehnhmbkhlmaaaDoorUnseal
import Derived.Lib.LaidTab
import Derived.LaidSub
import Derived.MakeChecks
import Derived.OpenShut
namespace Go.Proofs.YtpehnhmbkhlmaaaDoor
open Go.RowKit

theorem gTab : Tryd.prog.globalNamed "loop.example/g00321/impl.halfByteSums" = some 0 := by kernel_rfl
theorem gTabType : (Tryd.prog.globals[0]?).map (·.type) = some 49 := by kernel_rfl
theorem cells49 : Tryd.prog.cellsOf 49 = 16 := by kernel_rfl
theorem cells39 : Tryd.prog.cellsOf 39 = 1 := by kernel_rfl

theorem tab_of {W : World} (h : laidMetH Tryd.prog Rows.fnExactSumOfRow.laid W) : Tab W := by
  rw [MakeChecks.laidMetH_plain _ _ _ (by kernel_rfl)] at h
  have e : Rows.fnExactSumOfRow.laid = [("loop.example/g00321/impl.halfByteSums", Lib.tabData .u32 (halfTab.map Int.ofNat))] := by kernel_rfl
  rw [e] at h
  have t := Lib.tabIs_of_head (rest := []) gTab gTabType Tryd.underlying49 Tryd.underlying39 cells39 cells49 h
  have c : ∀ i, i < 16 → W.cell? ⟨0, i, none⟩ = some (.int .u32 (half i : Int)) := fun i hi => by
    have := t.cell gTab i (by simpa [halfTab] using hi)
    rw [this]
    have hl : i < halfTab.length := by simpa [halfTab] using hi
    simp only [half, List.getD_eq_getElem?_getD, List.getElem?_map, List.getElem?_eq_getElem hl, Option.map_some, Option.getD_some]
    rfl
  exact ⟨Nat.lt_of_le_of_lt (Nat.zero_le _) (World.block_lt_of_cell? W _ (c 0 (by omega))), c⟩
theorem fnExactSumMore_tab {W : World} (h : laidMetH Tryd.prog Rows.fnExactSumMoreRow.laid W) : Tab W := tab_of h
theorem fnExactSumOf_tab {W : World} (h : laidMetH Tryd.prog Rows.fnExactSumOfRow.laid W) : Tab W := tab_of h
theorem fnExactSealed_tab {W : World} (h : laidMetH Tryd.prog Rows.fnExactSealedRow.laid W) : Tab W := tab_of h
theorem fnExactUnsealed_tab {W : World} (h : laidMetH Tryd.prog Rows.fnExactUnsealedRow.laid W) : Tab W := tab_of h
theorem fnTurned_tab {W : World} (h : laidMetH Tryd.prog Rows.fnTurnedRow.laid W) : Tab W := tab_of h

set_option maxRecDepth 100000 in
theorem lawSumMore (z : Int) (s : ByteArray) (hz : (Lit.int .u32 z).wf = true) (hs : s.size ≤ maxLen) (w : World) (hT : Tab w) :
    Calls Tryd.prog 4 #[.int .u32 z, .string s] w fun e w' => e = .returned (.bool true) ∧ Below w.heap.size w w' := by
  unfold maxLen at hs
  have hb := bounds_u32 hz
  clear hz
  obtain ⟨x, rfl⟩ : ∃ x : Nat, z = x := ⟨z.toNat, by omega⟩
  have HX : Hid (x < 4294967296) := (show x < 4294967296 by omega)
  have HT : Hid (Tab w) := hT
  clear hT
  by_cases h : s.size ≤ 1048576
  · have h' : ¬ (1048576 : Int) < (s.size : Int) := by omega
    go_enter Tryd.func4, Tryd.ntmps4
    go_wp2_with fail
    refine (sMore_any x HX.out s (by omega) _).mono ?_
    rintro e w1 ⟨rfl, rfl⟩
    go_wp2_with fail
    refine (iMore_any x HX.out s (by omega) _ HT.out).mono ?_
    rintro e w1 ⟨rfl, rfl⟩
    go_wp2
    go_ret
    exact ⟨rfl, Below.refl _ _⟩
  · have h' : (1048576 : Int) < (s.size : Int) := by omega
    go_enter Tryd.func4, Tryd.ntmps4
    go_wp2
    go_ret
    exact ⟨rfl, Below.refl _ _⟩

set_option maxRecDepth 100000 in
theorem lawSumOf (s : ByteArray) (hs : s.size ≤ maxLen) (w : World) (hT : Tab w) :
    Calls Tryd.prog 5 #[.string s] w fun e w' => e = .returned (.bool true) ∧ Below w.heap.size w w' := by
  unfold maxLen at hs
  have HT : Hid (Tab w) := hT
  clear hT
  by_cases h : s.size ≤ 1048576
  · have h' : ¬ (1048576 : Int) < (s.size : Int) := by omega
    go_enter Tryd.func5, Tryd.ntmps5
    go_wp2_with fail
    refine (sSum_any s (by omega) _).mono ?_
    rintro e w1 ⟨rfl, rfl⟩
    go_wp2_with fail
    refine (iSum_any s (by omega) _ HT.out).mono ?_
    rintro e w1 ⟨rfl, rfl⟩
    go_wp2
    go_ret
    exact ⟨rfl, Below.refl _ _⟩
  · have h' : (1048576 : Int) < (s.size : Int) := by omega
    go_enter Tryd.func5, Tryd.ntmps5
    go_wp2
    go_ret
    exact ⟨rfl, Below.refl _ _⟩

theorem sealOf_form (s : ByteArray) : ∃ t b, sealOf s = .tuple #[.string t, .bool b] := by
  unfold sealOf
  split
  · exact ⟨_, _, rfl⟩
  · exact ⟨_, _, rfl⟩
theorem unsealOf_form (s : ByteArray) : ∃ t b, unsealOf s = .tuple #[.string t, .bool b] := by
  unfold unsealOf unsealN
  split
  · split
    · exact ⟨_, _, rfl⟩
    · exact ⟨_, _, rfl⟩
  · exact ⟨_, _, rfl⟩

set_option maxRecDepth 100000 in
theorem lawSealed (s : ByteArray) (hs : s.size ≤ maxLen) (w : World) (hT : Tab w) :
    Calls Tryd.prog 6 #[.string s] w fun e w' => e = .returned (.bool true) ∧ Below w.heap.size w w' := by
  unfold maxLen at hs
  have HT : Hid (Tab w) := hT
  clear hT
  by_cases h : s.size ≤ 1048576
  · have h' : ¬ (1048576 : Int) < (s.size : Int) := by omega
    obtain ⟨t, b, hf⟩ := sealOf_form s
    have c1 := fun wx => sSealed_any s (by omega) wx
    have c2 := fun wx => iSealed_any s (by omega) wx
    rw [hf] at c1 c2
    clear hf
    go_enter Tryd.func6, Tryd.ntmps6
    go_wp2_with fail
    refine (c1 _).mono ?_
    rintro e w1 ⟨rfl, hb1⟩
    have HT1 : Hid (Tab w1) := HT.out.on hb1 HT.out.1
    go_wp2_with fail
    refine (c2 _ HT1.out).mono ?_
    rintro e w2 ⟨rfl, hb2⟩
    have hb3 : Below w.heap.size w w2 := hb1.trans (hb2.mono hb1.size)
    clear c1 c2 hb1 hb2
    go_wp2
    go_ret
    exact ⟨rfl, hb3⟩
  · have h' : (1048576 : Int) < (s.size : Int) := by omega
    go_enter Tryd.func6, Tryd.ntmps6
    go_wp2
    go_ret
    exact ⟨rfl, Below.refl _ _⟩

set_option maxRecDepth 100000 in
theorem lawUnsealed (s : ByteArray) (hs : s.size ≤ maxLen) (w : World) (hT : Tab w) :
    Calls Tryd.prog 7 #[.string s] w fun e w' => e = .returned (.bool true) ∧ Below w.heap.size w w' := by
  unfold maxLen at hs
  have HT : Hid (Tab w) := hT
  clear hT
  by_cases h : s.size ≤ 1048576
  · have h' : ¬ (1048576 : Int) < (s.size : Int) := by omega
    obtain ⟨t, b, hf⟩ := unsealOf_form s
    have c1 := fun wx => sUnseal_any s (by omega) wx
    have c2 := fun wx => iUnseal_any s (by omega) wx
    rw [hf] at c1 c2
    clear hf
    go_enter Tryd.func7, Tryd.ntmps7
    go_wp2_with fail
    refine (c1 _).mono ?_
    rintro e w1 ⟨rfl, hb1⟩
    have HT1 : Hid (Tab w1) := HT.out.on hb1 HT.out.1
    go_wp2_with fail
    refine (c2 _ HT1.out).mono ?_
    rintro e w2 ⟨rfl, hb2⟩
    have hb3 : Below w.heap.size w w2 := hb1.trans (hb2.mono hb1.size)
    clear c1 c2 hb1 hb2
    go_wp2
    go_ret
    exact ⟨rfl, hb3⟩
  · have h' : (1048576 : Int) < (s.size : Int) := by omega
    go_enter Tryd.func7, Tryd.ntmps7
    go_wp2
    go_ret
    exact ⟨rfl, Below.refl _ _⟩

end Go.Proofs.YtpehnhmbkhlmaaaDoor
