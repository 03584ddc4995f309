/-
  The walk of the law on PartsOf.
-/
import Derived.Test.YtpienefbgpgdkalDoorPartsI
import Derived.Test.YtpienefbgpgdkalDoorRows
import Derived.Lib.LaidTab
import Derived.LaidSub
import Derived.MakeChecks
namespace Go.Proofs.YtpienefbgpgdkalDoor
open Go.RowKit Go.Lib

theorem PEnd.out (s : ByteArray) : ∃ (b : Bool) (L : List (List UInt8)), L.length ≤ 10 ∧ ∀ B e w', PEnd s B e w' → ∃ v, e = .returned (.tuple #[v, .bool b]) ∧ w'.ownsRow B 9 1 v L.length (strsV L) := by
  refine ⟨(partsR s.data.toList).isSome, (partsR s.data.toList).getD [], ?_, fun B e w' h => h⟩
  by_cases h : s.data.toList.length ≤ 600 ∧ s.data.toList.all plB = true ∧ (fields s.data.toList).length ≤ 10
  · rw [partsR, if_pos h]; exact h.2.2
  · rw [partsR, if_neg h]; simp

theorem own_under {w w1 : World} {B B' e sz n : Nat} {v : Value} {xs : List Value} (h : w.ownsRow B e sz v n xs) (hg : ∀ g, v.ownBlock = some g → g < B') (hb : Below B' w w1) : w1.ownsRow B e sz v n xs := by
  refine ⟨h.1, ?_⟩
  rcases h.2 with h0 | ⟨g, cap, cur, hv, hgB, hh, r⟩
  · exact .inl h0
  · exact .inr ⟨g, cap, cur, hv, hgB, by rw [hb.block g (hg g (by rw [hv]; rfl))]; exact hh, r⟩

theorem mark_1 (v : Value) (l : List (List UInt8)) (B : Nat) (hl : l.length ≤ 1000000) (w : World) (h : w.ownsRow B 9 1 v l.length (strsV l)) (hB : B ≤ w.heap.size) :
    Calls Tryd.prog 13 #[v, .int .i64 1] w fun e w' => e = .returned (.int .i64 ((l.length : Int) + 1)) ∧ w'.ownsRow B 9 1 v l.length (strsV (marks 1 l.length)) ∧ Below B w w' := by
  have h := mark_any v l 1 B (by omega) (by omega) hl w h hB
  have e : ((1 + l.length : Nat) : Int) = (l.length : Int) + 1 := by omega
  rw [e] at h
  exact h
theorem held_1 (v : Value) (n B : Nat) (hl : n ≤ 1000000) (w : World) (h : w.ownsRow B 9 1 v n (strsV (marks 1 n))) :
    Calls Tryd.prog 14 #[v, .int .i64 1] w fun e w' => e = .returned (.int .i64 ((n : Int) + 1)) ∧ Below w.heap.size w w' := by
  have h := held_any v n 1 B (by omega) (by omega) hl w h
  have e : ((1 + n : Nat) : Int) = (n : Int) + 1 := by omega
  rw [e] at h
  exact h

set_option maxHeartbeats 1600000 in
set_option maxRecDepth 100000 in
theorem lawPartsOf (s : ByteArray) (hs : s.size ≤ maxLen) (w : World) (htab : Lib.TabIs Tryd.prog w "strings.asciiSpace" .u8 Lib.asciiSpaceTab) :
    Calls Tryd.prog 5 #[.string s] w fun e w' => e = .returned (.bool true) ∧ Below w.heap.size w w' := by
  unfold maxLen at hs
  have HT : Hid (Lib.TabBelow Tryd.prog w.heap.size w "strings.asciiSpace" .u8 Lib.asciiSpaceTab) := Lib.tabBelow_of_tabIs htab
  clear htab
  by_cases hb : s.size ≤ 1048576
  · have hb' : ¬ (1048576 : Int) < (s.size : Int) := by omega
    obtain ⟨b, L, hL, HOUT⟩ := PEnd.out s
    have HO : Hid (∀ B e w', PEnd s B e w' → ∃ v, e = .returned (.tuple #[v, .bool b]) ∧ w'.ownsRow B 9 1 v L.length (strsV L)) := HOUT
    clear HOUT
    go_enter Tryd.func5, Tryd.ntmps5
    go_wp2_with fail
    refine (sParts_any s hb _).mono ?_
    rintro e w1 ⟨hend, hb1⟩
    obtain ⟨v0, rfl, own0⟩ := HO.out _ _ _ hend
    clear hend
    have OWN0 : Hid (w1.ownsRow w.heap.size 9 1 v0 L.length (strsV L)) := own0
    clear own0
    go_wp2_with fail
    refine (iParts_any s hb _ (HT.out w1 hb1)).mono ?_
    rintro e w2 ⟨hend, hb2⟩
    obtain ⟨v1, rfl, own1⟩ := HO.out _ _ _ hend
    clear hend
    have OWN1 : Hid (w2.ownsRow w1.heap.size 9 1 v1 L.length (strsV L)) := own1
    clear own1
    go_wp2_with fail
    refine (eq_same v1 v0 L _ _ (by omega) _ OWN1.out (own_below OWN0.out hb2)).mono ?_
    rintro e w3 ⟨rfl, hb3⟩
    have z1 := hb1.size
    have z2 := hb2.size
    have z3 := hb3.size
    go_wp2_with fail
    refine (mark_1 v1 L w1.heap.size (by omega) _ (own_below OWN1.out hb3) (by omega)).mono ?_
    rintro e w4 ⟨rfl, own4, hb4⟩
    have OWN4 : Hid (w4.ownsRow w1.heap.size 9 1 v1 L.length (strsV (marks 1 L.length))) := own4
    clear own4
    have z4 := hb4.size
    have hq : ¬ (L.length : Int) + 1 < 0 := by omega
    go_wp2_with fail
    refine (held_1 v1 L.length w1.heap.size (by omega) _ OWN4.out).mono ?_
    rintro e w5 ⟨rfl, hb5⟩
    have z5 := hb5.size
    have hw5 : Below w.heap.size w w5 := (((hb1.trans (hb2.mono (by omega))).trans (hb3.mono (by omega))).trans (hb4.mono (by omega))).trans (hb5.mono (by omega))
    go_wp2_with fail
    refine (iParts_any s hb _ (HT.out w5 hw5)).mono ?_
    rintro e w6 ⟨hend, hb6⟩
    obtain ⟨v2, rfl, own2⟩ := HO.out _ _ _ hend
    clear hend
    have OWN2 : Hid (w6.ownsRow w5.heap.size 9 1 v2 L.length (strsV L)) := own2
    clear own2
    have z6 := hb6.size
    have OWN06 : Hid (w6.ownsRow w.heap.size 9 1 v0 L.length (strsV L)) :=
      own_below (own_below (own_under (own_below (own_below OWN0.out hb2) hb3) (fun g hg => (OWN0.out.lt g hg).2) hb4) hb5) hb6
    go_wp2_with fail
    refine (eq_same v2 v0 L _ _ (by omega) _ OWN2.out OWN06.out).mono ?_
    rintro e w7 ⟨rfl, hb7⟩
    have z7 := hb7.size
    go_wp2_with fail
    refine (held_1 v1 L.length w1.heap.size (by omega) _ (own_below (own_below (own_below OWN4.out hb5) hb6) hb7)).mono ?_
    rintro e w8 ⟨rfl, hb8⟩
    have hw8 : Below w.heap.size w w8 := ((hw5.trans (hb6.mono (by omega))).trans (hb7.mono (by omega))).trans (hb8.mono (by omega))
    go_wp2
    go_ret
    exact ⟨rfl, hw8⟩
  · have hb' : (1048576 : Int) < (s.size : Int) := by omega
    go_enter Tryd.func5, Tryd.ntmps5
    go_wp2
    go_ret
    exact ⟨rfl, Below.refl _ _⟩

theorem gSp : Tryd.prog.globalNamed "strings.asciiSpace" = some 0 := by kernel_rfl
theorem gSpType : (Tryd.prog.globals[0]?).map (·.type) = some 39 := by kernel_rfl
theorem cells39 : Tryd.prog.cellsOf 39 = 256 := by kernel_rfl
theorem cells5 : Tryd.prog.cellsOf 5 = 1 := by kernel_rfl

theorem fnExactPartsOf_tab {W : World} (h : laidMetH Tryd.prog Rows.fnExactPartsOfRow.laid W) : Lib.TabIs Tryd.prog W "strings.asciiSpace" .u8 Lib.asciiSpaceTab := by
  rw [MakeChecks.laidMetH_plain _ _ _ (by kernel_rfl)] at h
  have h2 := laidMet.filter (fun x => x.1 == "strings.asciiSpace") h
  have e : (Rows.fnExactPartsOfRow.laid.filter fun x => x.1 == "strings.asciiSpace") = [("strings.asciiSpace", Lib.tabData .u8 Lib.asciiSpaceTab)] := by kernel_rfl
  rw [e] at h2
  exact Lib.tabIs_of_head (rest := []) gSp gSpType Tryd.underlying39 Tryd.underlying5 cells5 cells39 h2

end Go.Proofs.YtpienefbgpgdkalDoor
