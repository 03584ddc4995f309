/-
  The walks of the exact laws of the system of bits.
  (-DROP-: what the seat lacks is left out.)
-/
import Derived.Test.YtheadokdmncdoaaExZ
import Derived.Test.YtheadokdmncdoaaRwWit
import Derived.Test.YtheadokdmncdoaaRwCS4
import Derived.Test.YtheadokdmncdoaaRwMark
import Derived.Test.YtheadokdmncdoaaOrd
namespace Go.Proofs.Ytheadokdmncdoaa
open Go.RowKit

theorem cs_small : tot (csN 10) ≤ 1048576 ∧ ∀ j, ((csN 10).getD j []).length ≤ 1048576 := by
  have h : tot (csN 10) = 330 := by decide +kernel
  refine ⟨by omega, fun j => ?_⟩
  rcases Nat.lt_or_ge j (csN 10).length with h1 | h1
  · have := tot_at_le (csN 10) h1; omega
  · have e : (csN 10).getD j [] = [] := by rw [List.getD_eq_getElem?_getD, List.getElem?_eq_none h1]; rfl
    rw [e]; exact Nat.zero_le _

set_option maxHeartbeats 6400000 in
set_option maxRecDepth 100000 in
theorem lawCountSystem (w : World) :
    Calls Try.prog 6 #[] w fun e w' => e = .returned (.bool true) ∧ Below w.heap.size w w' := by
  have HB0 : Hid (Below w.heap.size w w) := Below.refl _ _
  obtain ⟨wiR, puR, nR, lsR, hbd0, hbd1, hbd2, hbd3, hq1, hq2⟩ : ∃ (wiR : Int) (puR : Int) (nR : Nat) (lsR : List (List Int)) , (nR ≤ 1048576) ∧ (lsR.length = nR * 3) ∧ (tot lsR ≤ 1048576) ∧ (∀ j, (lsR.getD j []).length ≤ 1048576) ∧ (∀ w, Calls Try.prog 11 #[] w fun e w' => ∃ vR vsR, e = .returned (sysV wiR puR vR) ∧ NOwnV 3 61 w.heap.size w'.heap.size w' vR nR vsR lsR ∧ Below w.heap.size w w') ∧ (∀ w, Calls Try.prog 26 #[] w fun e w' => ∃ vR vsR, e = .returned (sysV wiR puR vR) ∧ NOwnV 3 61 w.heap.size w'.heap.size w' vR nR vsR lsR ∧ Below w.heap.size w w') := ⟨11, 2, 10, csN 10, by decide, csN_len 10, cs_small.1, cs_small.2, fun w => (iCS_any w), fun w => (sCS_any w)⟩
  have HQ1 : Hid _ := hq1
  have HQ2 : Hid _ := hq2
  clear hq1 hq2
  unfold sysV at HQ1 HQ2
  go_enter Try.func6, Try.ntmps6
  go_wp2_with fail
  refine (HQ2.out _ ).mono ?_
  rintro e w4 ⟨v1, vs3, rfl, hO2, hb5⟩
  have hsw4 : w.heap.size ≤ w4.heap.size := hb5.size
  have F6 : Hid (Below w.heap.size w w4) := HB0.out.trans (hb5.mono HB0.out.size)
  clear hb5 HB0
  obtain ⟨ra7, rc8, hv9⟩ := row_form hO2.row
  subst hv9
  have F10 : Hid (NOwnV 3 61 w.heap.size w4.heap.size w4 (.slice ra7 nR rc8) nR vs3 lsR) := hO2
  clear hO2
  clear HQ2
  obtain ⟨W11, hE12, hb13, F14⟩ := box1 w4 28 #[.int .i64 wiR, .int .i64 puR, .slice ra7 nR rc8]
  have hlW11 : w4.heap.size < W11.heap.size := F14.lt
  have hsW11 : w4.heap.size ≤ W11.heap.size := hb13.size
  have F15 : Hid (Below w.heap.size w W11) := F6.out.trans (hb13.mono F6.out.size)
  have F16 : Hid (NOwnV 3 61 w.heap.size w4.heap.size W11 (.slice ra7 nR rc8) nR vs3 lsR) := F10.out.same (Same.of_below hb13 (by omega))
  clear hb13 F6 F10
  go_wp2_with fail
  refine (HQ1.out _ ).mono ?_
  rintro e w20 ⟨v17, vs19, rfl, hO18, hb21⟩
  have hsw20 : W11.heap.size ≤ w20.heap.size := hb21.size
  have F22 : Hid (Below w.heap.size w w20) := F15.out.trans (hb21.mono F15.out.size)
  have F23 : Hid (NOwnV 3 61 w.heap.size w4.heap.size w20 (.slice ra7 nR rc8) nR vs3 lsR) := F16.out.same (Same.of_below hb21 (by omega))
  have F24 := F14.on hb21 F14.lt
  clear hb21 F15 F16 F14
  obtain ⟨ra25, rc26, hv27⟩ := row_form hO18.row
  subst hv27
  have F28 : Hid (NOwnV 3 61 W11.heap.size w20.heap.size w20 (.slice ra25 nR rc26) nR vs19 lsR) := hO18
  clear hO18
  clear hE12
  obtain ⟨W29, hE30, hb31, F32⟩ := box1 w20 28 #[.int .i64 wiR, .int .i64 puR, .slice ra25 nR rc26]
  have hlW29 : w20.heap.size < W29.heap.size := F32.lt
  have hsW29 : w20.heap.size ≤ W29.heap.size := hb31.size
  have F33 : Hid (Below w.heap.size w W29) := F22.out.trans (hb31.mono F22.out.size)
  have F34 : Hid (NOwnV 3 61 w.heap.size w4.heap.size W29 (.slice ra7 nR rc8) nR vs3 lsR) := F23.out.same (Same.of_below hb31 (by omega))
  have F35 := F24.on hb31 F24.lt
  have F36 : Hid (NOwnV 3 61 W11.heap.size w20.heap.size W29 (.slice ra25 nR rc26) nR vs19 lsR) := F28.out.same (Same.of_below hb31 (by omega))
  clear hb31 F22 F23 F24 F28
  have hbnR := hbd0
  have hblR := hbd1
  have hbtR := hbd2
  have hbdR := hbd3
  go_wp2_with (first | (refine load_blk rfl rfl rfl F32 Try.underlying28 infoSy ?_) | (refine load_blk rfl rfl rfl F35 Try.underlying28 infoSy ?_))
  refine (eqSystem_any wiR puR _ _ nR _ _ hbnR lsR hbdR _ (F36.out.at.wide (by omega)) (F34.out.at.wide (by omega))).mono ?_
  rintro e w37 ⟨rfl, hb38⟩
  have hsw37 : W29.heap.size ≤ w37.heap.size := hb38.size
  have F39 : Hid (Below w.heap.size w w37) := F33.out.trans (hb38.mono F33.out.size)
  have F40 : Hid (NOwnV 3 61 w.heap.size w4.heap.size w37 (.slice ra7 nR rc8) nR vs3 lsR) := F34.out.same (Same.of_below hb38 (by omega))
  have F41 := F35.on hb38 F35.lt
  have F42 : Hid (NOwnV 3 61 W11.heap.size w20.heap.size w37 (.slice ra25 nR rc26) nR vs19 lsR) := F36.out.same (Same.of_below hb38 (by omega))
  have F43 := F32.on hb38 F32.lt
  clear hb38 F33 F34 F35 F36 F32
  clear hE30
  go_wp2_with (refine load_blk rfl rfl rfl F43 Try.underlying28 infoSy ?_)
  refine (markSystem_any _ _ _ nR _ _ lsR (1) _ _ (by omega) hbdR hbnR _ F42.out (by omega)).mono ?_
  rintro e w44 ⟨rfl, hR45, hk46⟩
  have hsw44 : w37.heap.size ≤ w44.heap.size := hk46.size
  have F47 : Hid (Below w.heap.size w w44) := hk46.bel F39.out F39.out.size (fun k q => by have h3 := q.1; omega)
  have F48 : Hid (NOwnV 3 61 w.heap.size w4.heap.size w44 (.slice ra7 nR rc8) nR vs3 lsR) := F40.out.same (Same.of_kps hk46 (by omega) (fun k h1 h2 q => by have h3 := q.1; have h4 := q.2; omega))
  have F49 := hk46.blk F41 (fun q => by have h1 := q.1; have h2 := q.2; have h3 := F41.lt; omega)
  have F50 := hk46.blk F43 (fun q => by have h1 := q.1; have h2 := q.2; have h3 := F43.lt; omega)
  clear hk46 F39 F40 F41 F43
  have F51 : Hid (NOwnV 3 61 W11.heap.size w20.heap.size w44 (.slice ra25 nR rc26) nR vs19 (mkzz (1) lsR)) := hR45
  clear hR45 F42
  have hkm : ¬ ((1 + tot lsR : Nat) : Int) < 0 := by omega
  go_wp2_with (refine load_blk rfl rfl rfl F50 Try.underlying28 infoSy ?_)
  refine (heldSystem_any _ _ _ nR _ _ lsR (1) _ _ hblR (by omega) hbdR hbnR _ F51.out (by omega)).mono ?_
  rintro e w52 ⟨rfl, hb53⟩
  have hsw52 : w44.heap.size ≤ w52.heap.size := hb53.size
  have F54 : Hid (Below w.heap.size w w52) := F47.out.trans (hb53.mono F47.out.size)
  have F55 : Hid (NOwnV 3 61 w.heap.size w4.heap.size w52 (.slice ra7 nR rc8) nR vs3 lsR) := F48.out.same (Same.of_below hb53 (by omega))
  have F56 := F49.on hb53 F49.lt
  have F57 : Hid (NOwnV 3 61 W11.heap.size w20.heap.size w52 (.slice ra25 nR rc26) nR vs19 (mkzz (1) lsR)) := F51.out.same (Same.of_below hb53 (by omega))
  have F58 := F50.on hb53 F50.lt
  clear hb53 F47 F48 F49 F51 F50
  go_wp2_with fail
  refine (HQ1.out _ ).mono ?_
  rintro e w62 ⟨v59, vs61, rfl, hO60, hb63⟩
  have hsw62 : w52.heap.size ≤ w62.heap.size := hb63.size
  have F64 : Hid (Below w.heap.size w w62) := F54.out.trans (hb63.mono F54.out.size)
  have F65 : Hid (NOwnV 3 61 w.heap.size w4.heap.size w62 (.slice ra7 nR rc8) nR vs3 lsR) := F55.out.same (Same.of_below hb63 (by omega))
  have F66 := F56.on hb63 F56.lt
  have F67 : Hid (NOwnV 3 61 W11.heap.size w20.heap.size w62 (.slice ra25 nR rc26) nR vs19 (mkzz (1) lsR)) := F57.out.same (Same.of_below hb63 (by omega))
  have F68 := F58.on hb63 F58.lt
  clear hb63 F54 F55 F56 F57 F58
  obtain ⟨ra69, rc70, hv71⟩ := row_form hO60.row
  subst hv71
  have F72 : Hid (NOwnV 3 61 w52.heap.size w62.heap.size w62 (.slice ra69 nR rc70) nR vs61 lsR) := hO60
  clear hO60
  clear HQ1
  obtain ⟨W73, hE74, hb75, F76⟩ := box1 w62 28 #[.int .i64 wiR, .int .i64 puR, .slice ra69 nR rc70]
  have hlW73 : w62.heap.size < W73.heap.size := F76.lt
  have hsW73 : w62.heap.size ≤ W73.heap.size := hb75.size
  have F77 : Hid (Below w.heap.size w W73) := F64.out.trans (hb75.mono F64.out.size)
  have F78 : Hid (NOwnV 3 61 w.heap.size w4.heap.size W73 (.slice ra7 nR rc8) nR vs3 lsR) := F65.out.same (Same.of_below hb75 (by omega))
  have F79 := F66.on hb75 F66.lt
  have F80 : Hid (NOwnV 3 61 W11.heap.size w20.heap.size W73 (.slice ra25 nR rc26) nR vs19 (mkzz (1) lsR)) := F67.out.same (Same.of_below hb75 (by omega))
  have F81 := F68.on hb75 F68.lt
  have F82 : Hid (NOwnV 3 61 w52.heap.size w62.heap.size W73 (.slice ra69 nR rc70) nR vs61 lsR) := F72.out.same (Same.of_below hb75 (by omega))
  clear hb75 F64 F65 F66 F67 F68 F72
  go_wp2_with (first | (refine load_blk rfl rfl rfl F76 Try.underlying28 infoSy ?_) | (refine load_blk rfl rfl rfl F79 Try.underlying28 infoSy ?_))
  refine (eqSystem_any wiR puR _ _ nR _ _ hbnR lsR hbdR _ (F82.out.at.wide (by omega)) (F78.out.at.wide (by omega))).mono ?_
  rintro e w83 ⟨rfl, hb84⟩
  have hsw83 : W73.heap.size ≤ w83.heap.size := hb84.size
  have F85 : Hid (Below w.heap.size w w83) := F77.out.trans (hb84.mono F77.out.size)
  have F86 : Hid (NOwnV 3 61 w.heap.size w4.heap.size w83 (.slice ra7 nR rc8) nR vs3 lsR) := F78.out.same (Same.of_below hb84 (by omega))
  have F87 := F79.on hb84 F79.lt
  have F88 : Hid (NOwnV 3 61 W11.heap.size w20.heap.size w83 (.slice ra25 nR rc26) nR vs19 (mkzz (1) lsR)) := F80.out.same (Same.of_below hb84 (by omega))
  have F89 := F81.on hb84 F81.lt
  have F90 : Hid (NOwnV 3 61 w52.heap.size w62.heap.size w83 (.slice ra69 nR rc70) nR vs61 lsR) := F82.out.same (Same.of_below hb84 (by omega))
  have F91 := F76.on hb84 F76.lt
  clear hb84 F77 F78 F79 F80 F81 F82 F76
  clear hE74
  go_wp2_with (refine load_blk rfl rfl rfl F89 Try.underlying28 infoSy ?_)
  refine (heldSystem_any _ _ _ nR _ _ lsR (1) _ _ hblR (by omega) hbdR hbnR _ F88.out (by omega)).mono ?_
  rintro e w92 ⟨rfl, hb93⟩
  have hsw92 : w83.heap.size ≤ w92.heap.size := hb93.size
  have F94 : Hid (Below w.heap.size w w92) := F85.out.trans (hb93.mono F85.out.size)
  have F95 : Hid (NOwnV 3 61 w.heap.size w4.heap.size w92 (.slice ra7 nR rc8) nR vs3 lsR) := F86.out.same (Same.of_below hb93 (by omega))
  have F96 := F87.on hb93 F87.lt
  have F97 : Hid (NOwnV 3 61 W11.heap.size w20.heap.size w92 (.slice ra25 nR rc26) nR vs19 (mkzz (1) lsR)) := F88.out.same (Same.of_below hb93 (by omega))
  have F98 := F89.on hb93 F89.lt
  have F99 : Hid (NOwnV 3 61 w52.heap.size w62.heap.size w92 (.slice ra69 nR rc70) nR vs61 lsR) := F90.out.same (Same.of_below hb93 (by omega))
  have F100 := F91.on hb93 F91.lt
  clear hb93 F85 F86 F87 F88 F89 F90 F91
  go_wp2
  go_ret
  exact ⟨rfl, F94.out⟩


end Go.Proofs.Ytheadokdmncdoaa
