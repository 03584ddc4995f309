/-
  The walks of the laws on Digest, DigestPair and DigestHex, and what their rows list of the table.
-/
import Derived.Test.YthncegemhaofnabDoorRows
import Derived.Test.YthncegemhaofnabDoorDigS
import Derived.Test.YthncegemhaofnabDoorHex
import Derived.Lib.LaidTab
import Derived.LaidSub
import Derived.MakeChecks
import Derived.OpenShut
namespace Go.Proofs.YthncegemhaofnabDoor
open Go.RowKit

theorem gTab : Tryd.prog.globalNamed "loop.example/g00321/impl.roundWords" = some 0 := by kernel_rfl
theorem gTabType : (Tryd.prog.globals[0]?).map (·.type) = some 41 := by kernel_rfl
theorem cellsT : Tryd.prog.cellsOf 41 = 24 := by kernel_rfl
theorem cellsW : Tryd.prog.cellsOf 26 = 1 := by kernel_rfl
theorem rcL_val : ∀ i, i < 24 → wv (rcW i) = ((rcL.getD i 0 : Nat) : Int) := by decide

theorem tab_of {W : World} (h : laidMetH Tryd.prog Rows.fnExactDigestRow.laid W) : Tab W := by
  rw [MakeChecks.laidMetH_plain _ _ _ (by kernel_rfl)] at h
  have e : Rows.fnExactDigestRow.laid = [("loop.example/g00321/impl.roundWords", Lib.tabData .u64 (rcL.map Int.ofNat))] := by kernel_rfl
  rw [e] at h
  have t := Lib.tabIs_of_head (rest := []) gTab gTabType Tryd.underlying41 Tryd.underlying26 cellsW cellsT h
  have c : ∀ i, i < 24 → W.cell? ⟨0, i, none⟩ = some (.int .u64 (wv (rcW i))) := fun i hi => by
    have := t.cell gTab i (by simpa [rcL] using hi)
    rw [this, rcL_val i hi]
    have hl : i < rcL.length := by simpa [rcL] using hi
    simp only [List.getD_eq_getElem?_getD, List.getElem?_map, List.getElem?_eq_getElem hl, Option.map_some, Option.getD_some]
    rfl
  exact ⟨Nat.lt_of_le_of_lt (Nat.zero_le _) (World.block_lt_of_cell? W _ (c 0 (by omega))), c⟩
theorem fnExactDigest_tab {W : World} (h : laidMetH Tryd.prog Rows.fnExactDigestRow.laid W) : Tab W := tab_of h
theorem fnExactDigestHex_tab {W : World} (h : laidMetH Tryd.prog Rows.fnExactDigestHexRow.laid W) : Tab W := tab_of h
theorem fnExactDigestPair_tab {W : World} (h : laidMetH Tryd.prog Rows.fnExactDigestPairRow.laid W) : Tab W := tab_of h

/-- A digest in figures. -/
def digHexT (s : ByteArray) : ByteArray := ⟨(hexL (digT s).data.toList).toArray⟩

set_option maxRecDepth 100000 in
theorem iDigHex_any (s : ByteArray) (hs : s.size ≤ 2097152) (w : World) (hT : Tab w) :
    Calls Tryd.prog 9 #[.string s] w fun e w' => e = .returned (.string (digHexT s)) ∧ Below w.heap.size w w' := by
  have HI : Hid (Calls Tryd.prog 7 #[.string s] w fun e w' => e = .returned (.string (digT s)) ∧ Below w.heap.size w w') := iDig_any s hs w hT
  have HH : Hid (∀ w, Calls Tryd.prog 21 #[.string (digT s)] w fun e w' => e = .returned (.tuple #[.string (digHexT s), .bool true]) ∧ Below w.heap.size w w') := fun w => iHex_ok (digT s) (by rw [digT_size]; decide) w
  generalize digHexT s = h at HH
  generalize digT s = d at HI HH
  clear hT
  go_enter Tryd.func9, Tryd.ntmps9
  go_wp2_with fail
  refine HI.out.mono ?_
  rintro e w1 ⟨rfl, hb1⟩
  go_wp2_with fail
  refine (HH.out _).mono ?_
  rintro e w2 ⟨rfl, hb2⟩
  go_wp2
  go_ret
  exact ⟨rfl, hb1.trans (hb2.mono hb1.size)⟩

set_option maxRecDepth 100000 in
theorem sDigHex_any (s : ByteArray) (hs : s.size ≤ 2097152) (w : World) :
    Calls Tryd.prog 8 #[.string s] w fun e w' => e = .returned (.string (digHexT s)) ∧ Below w.heap.size w w' := by
  have HI : Hid (Calls Tryd.prog 6 #[.string s] w fun e w' => e = .returned (.string (digT s)) ∧ Below w.heap.size w w') := sDig_any s hs w
  have HH : Hid (∀ w, Calls Tryd.prog 20 #[.string (digT s)] w fun e w' => e = .returned (.tuple #[.string (digHexT s), .bool true]) ∧ Below w.heap.size w w') := fun w => sHex_ok (digT s) (by rw [digT_size]; decide) w
  generalize digHexT s = h at HH
  generalize digT s = d at HI HH
  go_enter Tryd.func8, Tryd.ntmps8
  go_wp2_with fail
  refine HI.out.mono ?_
  rintro e w1 ⟨rfl, hb1⟩
  go_wp2_with fail
  refine (HH.out _).mono ?_
  rintro e w2 ⟨rfl, hb2⟩
  go_wp2
  go_ret
  exact ⟨rfl, hb1.trans (hb2.mono hb1.size)⟩

set_option maxRecDepth 100000 in
theorem iDigPair_any (s t : ByteArray) (hs : s.size ≤ 1048576) (ht : t.size ≤ 1048576) (w : World) (hT : Tab w) :
    Calls Tryd.prog 11 #[.string s, .string t] w fun e w' => e = .returned (.string (digT (s ++ t))) ∧ Below w.heap.size w w' := by
  have HI : Hid (Calls Tryd.prog 7 #[.string (s ++ t)] w fun e w' => e = .returned (.string (digT (s ++ t))) ∧ Below w.heap.size w w') := iDig_any (s ++ t) (by rw [ByteArray.size_append]; omega) w hT
  generalize digT (s ++ t) = d at HI
  clear hT
  go_enter Tryd.func11, Tryd.ntmps11
  go_wp2_with fail
  refine HI.out.mono ?_
  rintro e w1 ⟨rfl, hb1⟩
  go_wp2
  go_ret
  exact ⟨rfl, hb1⟩

set_option maxRecDepth 100000 in
theorem sDigPair_any (s t : ByteArray) (hs : s.size ≤ 1048576) (ht : t.size ≤ 1048576) (w : World) :
    Calls Tryd.prog 10 #[.string s, .string t] w fun e w' => e = .returned (.string (digT (s ++ t))) ∧ Below w.heap.size w w' := by
  have HI : Hid (Calls Tryd.prog 6 #[.string (s ++ t)] w fun e w' => e = .returned (.string (digT (s ++ t))) ∧ Below w.heap.size w w') := sDig_any (s ++ t) (by rw [ByteArray.size_append]; omega) w
  generalize digT (s ++ t) = d at HI
  go_enter Tryd.func10, Tryd.ntmps10
  go_wp2_with fail
  refine HI.out.mono ?_
  rintro e w1 ⟨rfl, hb1⟩
  go_wp2
  go_ret
  exact ⟨rfl, hb1⟩

set_option maxRecDepth 100000 in
theorem lawDig (s : ByteArray) (_hs : s.size ≤ maxLen) (w : World) (hT : Tab w) :
    Calls Tryd.prog 3 #[.string s] w fun e w' => e = .returned (.bool true) ∧ Below w.heap.size w w' := by
  have HT : Hid (Tab w) := hT
  clear hT
  by_cases hb : s.size ≤ 1048576
  · have hb' : ¬ (1048576 : Int) < (s.size : Int) := by omega
    have HI : Hid (∀ w : World, Tab w → Calls Tryd.prog 7 #[.string s] w fun e w' => e = .returned (.string (digT s)) ∧ Below w.heap.size w w') := fun w h => iDig_any s (by omega) w h
    have HS : Hid (∀ w : World, Calls Tryd.prog 6 #[.string s] w fun e w' => e = .returned (.string (digT s)) ∧ Below w.heap.size w w') := fun w => sDig_any s (by omega) w
    generalize digT s = r at HI HS
    go_enter Tryd.func3, Tryd.ntmps3
    go_wp2_with fail
    refine (HS.out _).mono ?_
    rintro e w1 ⟨rfl, hb1⟩
    go_wp2_with fail
    refine (HI.out _ (HT.out.on hb1 HT.out.1)).mono ?_
    rintro e w2 ⟨rfl, hb2⟩
    go_wp2
    go_ret
    exact ⟨rfl, hb1.trans (hb2.mono hb1.size)⟩
  · have hb' : (1048576 : Int) < (s.size : Int) := by omega
    go_enter Tryd.func3, Tryd.ntmps3
    go_wp2
    go_ret
    exact ⟨rfl, Below.refl _ _⟩

set_option maxRecDepth 100000 in
theorem lawDigHex (s : ByteArray) (_hs : s.size ≤ maxLen) (w : World) (hT : Tab w) :
    Calls Tryd.prog 4 #[.string s] w fun e w' => e = .returned (.bool true) ∧ Below w.heap.size w w' := by
  have HT : Hid (Tab w) := hT
  clear hT
  by_cases hb : s.size ≤ 1048576
  · have hb' : ¬ (1048576 : Int) < (s.size : Int) := by omega
    have HI : Hid (∀ w : World, Tab w → Calls Tryd.prog 9 #[.string s] w fun e w' => e = .returned (.string (digHexT s)) ∧ Below w.heap.size w w') := fun w h => iDigHex_any s (by omega) w h
    have HS : Hid (∀ w : World, Calls Tryd.prog 8 #[.string s] w fun e w' => e = .returned (.string (digHexT s)) ∧ Below w.heap.size w w') := fun w => sDigHex_any s (by omega) w
    generalize digHexT s = r at HI HS
    go_enter Tryd.func4, Tryd.ntmps4
    go_wp2_with fail
    refine (HS.out _).mono ?_
    rintro e w1 ⟨rfl, hb1⟩
    go_wp2_with fail
    refine (HI.out _ (HT.out.on hb1 HT.out.1)).mono ?_
    rintro e w2 ⟨rfl, hb2⟩
    go_wp2
    go_ret
    exact ⟨rfl, hb1.trans (hb2.mono hb1.size)⟩
  · have hb' : (1048576 : Int) < (s.size : Int) := by omega
    go_enter Tryd.func4, Tryd.ntmps4
    go_wp2
    go_ret
    exact ⟨rfl, Below.refl _ _⟩

set_option maxRecDepth 100000 in
theorem lawDigPair (s t : ByteArray) (_hs : s.size ≤ maxLen) (_ht : t.size ≤ maxLen) (w : World) (hT : Tab w) :
    Calls Tryd.prog 5 #[.string s, .string t] w fun e w' => e = .returned (.bool true) ∧ Below w.heap.size w w' := by
  have HT : Hid (Tab w) := hT
  clear hT
  by_cases hb : s.size ≤ 1048576
  · have hb' : ¬ (1048576 : Int) < (s.size : Int) := by omega
    by_cases hc : t.size ≤ 1048576
    · have hc' : ¬ (1048576 : Int) < (t.size : Int) := by omega
      have HI : Hid (∀ w : World, Tab w → Calls Tryd.prog 11 #[.string s, .string t] w fun e w' => e = .returned (.string (digT (s ++ t))) ∧ Below w.heap.size w w') := fun w h => iDigPair_any s t hb hc w h
      have HS : Hid (∀ w : World, Calls Tryd.prog 10 #[.string s, .string t] w fun e w' => e = .returned (.string (digT (s ++ t))) ∧ Below w.heap.size w w') := fun w => sDigPair_any s t hb hc w
      generalize digT (s ++ t) = r at HI HS
      go_enter Tryd.func5, Tryd.ntmps5
      go_wp2_with fail
      refine (HS.out _).mono ?_
      rintro e w1 ⟨rfl, hb1⟩
      go_wp2_with fail
      refine (HI.out _ (HT.out.on hb1 HT.out.1)).mono ?_
      rintro e w2 ⟨rfl, hb2⟩
      go_wp2
      go_ret
      exact ⟨rfl, hb1.trans (hb2.mono hb1.size)⟩
    · have hc' : (1048576 : Int) < (t.size : Int) := by omega
      go_enter Tryd.func5, Tryd.ntmps5
      go_wp2
      go_ret
      exact ⟨rfl, Below.refl _ _⟩
  · have hb' : (1048576 : Int) < (s.size : Int) := by omega
    go_enter Tryd.func5, Tryd.ntmps5
    go_wp2
    go_ret
    exact ⟨rfl, Below.refl _ _⟩

end Go.Proofs.YthncegemhaofnabDoor
