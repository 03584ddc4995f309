/-
  The walk of the exact law of a polynomial of each wire.
  (-DROP-: what the seat lacks is left out.)
-/
import Derived.Test.YtjlijflfepffiaaJoined15
import Derived.Test.YtjlijflfepffiaaQapHelp
import Derived.Test.YtjlijflfepffiaaJoined13
import Derived.Test.YtjlijflfepffiaaJoined10

namespace Go.Proofs.Ytjlijflfepffiaa
open Go.RowKit

set_option maxHeartbeats 6400000 in
set_option maxRecDepth 100000 in
theorem lawQapOf (wiS puS : Int) (aS : Option Addr) (nS cS : Nat) (hwS : (Lit.int .i64 wiS).wf = true) (hnS : nS ≤ 9223372036854775807) (lsS : List (List Int)) (hzS : ∀ j, (lsS.getD j []).length ≤ 9223372036854775807) (w : World) (hAS : NAt 3 w w.heap.size (.slice aS nS cS) nS lsS) :
    Calls Try.prog 5 #[sysV wiS puS (.slice aS nS cS)] w fun e w' => e = .returned (.bool true) ∧ Below w.heap.size w w' := by
  unfold sysV
  have HAS : Hid (NAt 3 w w.heap.size (.slice aS nS cS) nS lsS) := hAS
  clear hAS
  have HB0 : Hid (Below w.heap.size w w) := Below.refl _ _
  have HZS : Hid (szF 1048576 (nS + tot lsS) = -1 ∨ (¬ szF 1048576 (nS + tot lsS) < 0 ∧ nS + tot lsS ≤ 1048576)) := by show _ ∨ _; unfold szF; by_cases h : nS + tot lsS ≤ 1048576 <;> simp [h] <;> omega
  obtain ⟨W1, hE2, hb3, F4⟩ := box1 w 53 #[.int .i64 wiS, .int .i64 puS, .slice aS nS cS]
  have hlW1 : w.heap.size < W1.heap.size := F4.lt
  have hsW1 : w.heap.size ≤ W1.heap.size := hb3.size
  have F5 : Hid (Below w.heap.size w W1) := HB0.out.trans (hb3.mono HB0.out.size)
  clear hb3 HB0
  have HSZ : Hid (Calls Try.prog 29 #[.agg #[.int .i64 wiS, .int .i64 puS, .slice aS nS cS], .int .i64 1048576] W1 fun e w' => e = .returned (.int .i64 (szF 1048576 (nS + tot lsS))) ∧ Below W1.heap.size W1 w') := szSystem_any wiS puS aS nS cS hnS lsS hzS W1 ((HAS.out.on F5.out).wide F5.out.size)
  generalize szF 1048576 (nS + tot lsS) = left at HZS HSZ
  rcases HZS.out with rfl | ⟨hleft, htotS⟩
  · skip
    go_enter Try.func5, Try.ntmps5
    go_wp2_with (refine load_blk rfl rfl rfl F4 Try.underlying53 infoSl ?_)
    clear hE2
    refine HSZ.out.mono ?_
    rintro e wz ⟨rfl, hbz⟩
    have hBz := F5.out.trans (hbz.mono F5.out.size)
    clear hbz HSZ
    go_wp2
    go_ret
    exact ⟨rfl, hBz⟩
  have hn1S : nS ≤ 1048576 := by omega
  have hz1S : ∀ j, (lsS.getD j []).length ≤ 1048576 := fun j => by
    rcases Nat.lt_or_ge j lsS.length with h | h
    · have := tot_at_le lsS h; omega
    · have e : lsS.getD j [] = [] := by simp [h]
      rw [e]; exact Nat.zero_le _
  clear HZS
  obtain ⟨nR, UR, VR, XR, B, hbd0, hbd1, hbd2, hbd3, hbd4, hbd5, hbd6, hbd7, hbd8, hbd9, hq1, hq2⟩ : ∃ (nR : Nat) (UR : List (List Int)) (VR : List (List Int)) (XR : List (List Int)) (B : Bool) , (nR ≤ 1048576) ∧ (∀ j, (UR.getD j []).length ≤ 1048576) ∧ (∀ j, (VR.getD j []).length ≤ 1048576) ∧ (∀ j, (XR.getD j []).length ≤ 1048576) ∧ (UR.length = nR) ∧ (VR.length = nR) ∧ (XR.length = nR) ∧ (tot UR ≤ 20971520) ∧ (tot VR ≤ 20971520) ∧ (tot XR ≤ 20971520) ∧ (∀ avS cvS w, NAt 3 w w.heap.size (.slice avS nS cvS) nS lsS → Calls Try.prog 18 #[sysV wiS puS (.slice avS nS cvS)] w fun e w' => ∃ vuR vvR vxR usR vsR xsR, e = .returned (.tuple #[.agg #[vuR, vvR, vxR], .bool B]) ∧ Tri 27 w.heap.size w'.heap.size w' vuR nR usR UR vvR nR vsR VR vxR nR xsR XR ∧ Below w.heap.size w w') ∧ (∀ avS cvS w, NAt 3 w w.heap.size (.slice avS nS cvS) nS lsS → Calls Try.prog 19 #[sysV wiS puS (.slice avS nS cvS)] w fun e w' => ∃ vuR vvR vxR usR vsR xsR, e = .returned (.tuple #[.agg #[vuR, vvR, vxR], .bool B]) ∧ Tri 27 w.heap.size w'.heap.size w' vuR nR usR UR vvR nR vsR VR vxR nR xsR XR ∧ Below w.heap.size w w') := ⟨_, _, _, _, _, Nat.le_trans (qapC_le wiS puS nS lsS) (by decide), fun j => qapN_small _ _ 0 _ j, fun j => qapN_small _ _ 1 _ j, fun j => qapN_small _ _ 2 _ j, qapN_len _ _ _ _, qapN_len _ _ _ _, qapN_len _ _ _ _, qapN_tot _ _ _ _ (qapC_le _ _ _ _), qapN_tot _ _ _ _ (qapC_le _ _ _ _), qapN_tot _ _ _ _ (qapC_le _ _ _ _), fun avS cvS w hS => (iQapV wiS puS hwS avS nS cvS (by omega) lsS (fun j => Nat.le_trans (hz1S j) (by decide)) w hS), fun avS cvS w hS => (sQapV wiS puS hwS avS nS cvS (by omega) lsS (fun j => Nat.le_trans (hz1S j) (by decide)) w hS)⟩
  have HQ1 : Hid _ := hq1
  have HQ2 : Hid _ := hq2
  clear hq1 hq2
  unfold sysV at HQ1 HQ2
  go_enter Try.func5, Try.ntmps5
  go_wp2_with (refine load_blk rfl rfl rfl F4 Try.underlying53 infoSl ?_)
  clear hE2
  refine HSZ.out.mono ?_
  rintro e w6 ⟨rfl, hb7⟩
  clear HSZ
  have hsw6 : W1.heap.size ≤ w6.heap.size := hb7.size
  have F8 : Hid (Below w.heap.size w w6) := F5.out.trans (hb7.mono F5.out.size)
  have F9 := F4.on hb7 F4.lt
  clear hb7 F5 F4
  go_wp2_with (refine load_blk rfl rfl rfl F9 Try.underlying53 infoSl ?_)
  refine (toSystem_any wiS puS _ nS _ hn1S lsS hz1S _ ((HAS.out.on F8.out).wide F8.out.size)).mono ?_
  rintro e w13 ⟨g10, vs12, rfl, hO11, hb14⟩
  unfold sysV
  have hsw13 : w6.heap.size ≤ w13.heap.size := hb14.size
  have F15 : Hid (Below w.heap.size w w13) := F8.out.trans (hb14.mono F8.out.size)
  have F16 := F9.on hb14 F9.lt
  clear hb14 F8 F9
  have F17 : Hid (NOwnV 3 35 w6.heap.size w13.heap.size w13 (.slice (some ⟨g10, 0, none⟩) nS nS) nS vs12 lsS) := hO11
  clear hO11
  go_wp2_with (refine load_blk rfl rfl rfl F16 Try.underlying53 infoSl ?_)
  refine (HQ2.out _ _ _ (F17.out.at.wide (by omega))).mono ?_
  rintro e w26 ⟨v20, v21, v22, vs23, vs24, vs25, rfl, hO19, hb27⟩
  have hsw26 : w13.heap.size ≤ w26.heap.size := hb27.size
  have F28 : Hid (Below w.heap.size w w26) := F15.out.trans (hb27.mono F15.out.size)
  have F29 := F16.on hb27 F16.lt
  have F30 : Hid (NOwnV 3 35 w6.heap.size w13.heap.size w26 (.slice (some ⟨g10, 0, none⟩) nS nS) nS vs12 lsS) := F17.out.same (Same.of_below hb27 (by omega))
  clear hb27 F15 F16 F17
  obtain ⟨ra31, rc32, hv33⟩ := row_form hO19.u.row
  subst hv33
  obtain ⟨ra34, rc35, hv36⟩ := row_form hO19.v.row
  subst hv36
  obtain ⟨ra37, rc38, hv39⟩ := row_form hO19.x.row
  subst hv39
  have F40 : Hid (Tri 27 w13.heap.size w26.heap.size w26 (.slice ra31 nR rc32) nR vs23 UR (.slice ra34 nR rc35) nR vs24 VR (.slice ra37 nR rc38) nR vs25 XR) := hO19
  clear hO19
  clear HQ2
  clear F30
  obtain ⟨W41, hE42, hb43, F44⟩ := box1 w26 41 #[.slice ra31 nR rc32, .slice ra34 nR rc35, .slice ra37 nR rc38]
  have hlW41 : w26.heap.size < W41.heap.size := F44.lt
  have hsW41 : w26.heap.size ≤ W41.heap.size := hb43.size
  have F45 : Hid (Below w.heap.size w W41) := F28.out.trans (hb43.mono F28.out.size)
  have F46 := F29.on hb43 F29.lt
  have F47 : Hid (Tri 27 w13.heap.size w26.heap.size W41 (.slice ra31 nR rc32) nR vs23 UR (.slice ra34 nR rc35) nR vs24 VR (.slice ra37 nR rc38) nR vs25 XR) := F40.out.same (Same.of_below hb43 (by omega))
  clear hb43 F28 F29 F40
  go_wp2_with (first | (refine load_blk rfl rfl rfl F46 Try.underlying53 infoSl ?_) | (refine load_blk rfl rfl rfl F44 Try.underlying41 infoQa ?_))
  refine (toSystem_any wiS puS _ nS _ hn1S lsS hz1S _ ((HAS.out.on F45.out).wide F45.out.size)).mono ?_
  rintro e w51 ⟨g48, vs50, rfl, hO49, hb52⟩
  unfold sysV
  have hsw51 : W41.heap.size ≤ w51.heap.size := hb52.size
  have F53 : Hid (Below w.heap.size w w51) := F45.out.trans (hb52.mono F45.out.size)
  have F54 := F46.on hb52 F46.lt
  have F55 : Hid (Tri 27 w13.heap.size w26.heap.size w51 (.slice ra31 nR rc32) nR vs23 UR (.slice ra34 nR rc35) nR vs24 VR (.slice ra37 nR rc38) nR vs25 XR) := F47.out.same (Same.of_below hb52 (by omega))
  have F56 := F44.on hb52 F44.lt
  clear hb52 F45 F46 F47 F44
  have F57 : Hid (NOwnV 3 35 W41.heap.size w51.heap.size w51 (.slice (some ⟨g48, 0, none⟩) nS nS) nS vs50 lsS) := hO49
  clear hO49
  clear hE42
  obtain ⟨W58, hE59, hb60, F61⟩ := box1 w51 26 #[.int .i64 wiS, .int .i64 puS, .slice (some ⟨g48, 0, none⟩) nS nS]
  have hlW58 : w51.heap.size < W58.heap.size := F61.lt
  have hsW58 : w51.heap.size ≤ W58.heap.size := hb60.size
  have F62 : Hid (Below w.heap.size w W58) := F53.out.trans (hb60.mono F53.out.size)
  have F63 := F54.on hb60 F54.lt
  have F64 : Hid (Tri 27 w13.heap.size w26.heap.size W58 (.slice ra31 nR rc32) nR vs23 UR (.slice ra34 nR rc35) nR vs24 VR (.slice ra37 nR rc38) nR vs25 XR) := F55.out.same (Same.of_below hb60 (by omega))
  have F65 := F56.on hb60 F56.lt
  have F66 : Hid (NOwnV 3 35 W41.heap.size w51.heap.size W58 (.slice (some ⟨g48, 0, none⟩) nS nS) nS vs50 lsS) := F57.out.same (Same.of_below hb60 (by omega))
  clear hb60 F53 F54 F55 F56 F57
  go_wp2_with (first | (refine load_blk rfl rfl rfl F63 Try.underlying53 infoSl ?_) | (refine load_blk rfl rfl rfl F61 Try.underlying26 infoSy ?_))
  refine (HQ1.out _ _ _ (F66.out.at.wide (by omega))).mono ?_
  rintro e w75 ⟨v69, v70, v71, vs72, vs73, vs74, rfl, hO68, hb76⟩
  have hsw75 : W58.heap.size ≤ w75.heap.size := hb76.size
  have F77 : Hid (Below w.heap.size w w75) := F62.out.trans (hb76.mono F62.out.size)
  have F78 := F63.on hb76 F63.lt
  have F79 : Hid (Tri 27 w13.heap.size w26.heap.size w75 (.slice ra31 nR rc32) nR vs23 UR (.slice ra34 nR rc35) nR vs24 VR (.slice ra37 nR rc38) nR vs25 XR) := F64.out.same (Same.of_below hb76 (by omega))
  have F80 := F65.on hb76 F65.lt
  have F81 : Hid (NOwnV 3 35 W41.heap.size w51.heap.size w75 (.slice (some ⟨g48, 0, none⟩) nS nS) nS vs50 lsS) := F66.out.same (Same.of_below hb76 (by omega))
  have F82 := F61.on hb76 F61.lt
  clear hb76 F62 F63 F64 F65 F66 F61
  obtain ⟨ra83, rc84, hv85⟩ := row_form hO68.u.row
  subst hv85
  obtain ⟨ra86, rc87, hv88⟩ := row_form hO68.v.row
  subst hv88
  obtain ⟨ra89, rc90, hv91⟩ := row_form hO68.x.row
  subst hv91
  have F92 : Hid (Tri 27 W58.heap.size w75.heap.size w75 (.slice ra83 nR rc84) nR vs72 UR (.slice ra86 nR rc87) nR vs73 VR (.slice ra89 nR rc90) nR vs74 XR) := hO68
  clear hO68
  clear hE59
  obtain ⟨W93, hE94, hb95, F96⟩ := box1 w75 41 #[.slice ra83 nR rc84, .slice ra86 nR rc87, .slice ra89 nR rc90]
  have hlW93 : w75.heap.size < W93.heap.size := F96.lt
  have hsW93 : w75.heap.size ≤ W93.heap.size := hb95.size
  have F97 : Hid (Below w.heap.size w W93) := F77.out.trans (hb95.mono F77.out.size)
  have F98 := F78.on hb95 F78.lt
  have F99 : Hid (Tri 27 w13.heap.size w26.heap.size W93 (.slice ra31 nR rc32) nR vs23 UR (.slice ra34 nR rc35) nR vs24 VR (.slice ra37 nR rc38) nR vs25 XR) := F79.out.same (Same.of_below hb95 (by omega))
  have F100 := F80.on hb95 F80.lt
  have F101 : Hid (NOwnV 3 35 W41.heap.size w51.heap.size W93 (.slice (some ⟨g48, 0, none⟩) nS nS) nS vs50 lsS) := F81.out.same (Same.of_below hb95 (by omega))
  have F102 := F82.on hb95 F82.lt
  have F103 : Hid (Tri 27 W58.heap.size w75.heap.size W93 (.slice ra83 nR rc84) nR vs72 UR (.slice ra86 nR rc87) nR vs73 VR (.slice ra89 nR rc90) nR vs74 XR) := F92.out.same (Same.of_below hb95 (by omega))
  clear hb95 F77 F78 F79 F80 F81 F82 F92
  have hbnR := hbd0
  have hbUR := hbd1
  have hbVR := hbd2
  have hbXR := hbd3
  have hlUR := hbd4
  have hlVR := hbd5
  have hlXR := hbd6
  have htUR := hbd7
  have htVR := hbd8
  have htXR := hbd9
  go_wp2_with (first | (refine load_blk rfl rfl rfl F96 Try.underlying41 infoQa ?_) | (refine load_blk rfl rfl rfl F100 Try.underlying41 infoQa ?_))
  refine (eqQap_any _ _ _ _ _ _ nR UR VR XR hbUR hbVR hbXR hbnR _ (F103.out.u.at.wide (by omega)) (F103.out.v.at.wide (by omega)) (F103.out.x.at.wide (by omega)) (F99.out.u.at.wide (by omega)) (F99.out.v.at.wide (by omega)) (F99.out.x.at.wide (by omega))).mono ?_
  rintro e w104 ⟨rfl, hb105⟩
  have hsw104 : W93.heap.size ≤ w104.heap.size := hb105.size
  have F106 : Hid (Below w.heap.size w w104) := F97.out.trans (hb105.mono F97.out.size)
  have F107 := F98.on hb105 F98.lt
  have F108 : Hid (Tri 27 w13.heap.size w26.heap.size w104 (.slice ra31 nR rc32) nR vs23 UR (.slice ra34 nR rc35) nR vs24 VR (.slice ra37 nR rc38) nR vs25 XR) := F99.out.same (Same.of_below hb105 (by omega))
  have F109 := F100.on hb105 F100.lt
  have F110 : Hid (NOwnV 3 35 W41.heap.size w51.heap.size w104 (.slice (some ⟨g48, 0, none⟩) nS nS) nS vs50 lsS) := F101.out.same (Same.of_below hb105 (by omega))
  have F111 := F102.on hb105 F102.lt
  have F112 : Hid (Tri 27 W58.heap.size w75.heap.size w104 (.slice ra83 nR rc84) nR vs72 UR (.slice ra86 nR rc87) nR vs73 VR (.slice ra89 nR rc90) nR vs74 XR) := F103.out.same (Same.of_below hb105 (by omega))
  have F113 := F96.on hb105 F96.lt
  clear hb105 F97 F98 F99 F100 F101 F102 F103 F96
  clear hE94
  go_wp2_with (refine load_blk rfl rfl rfl F113 Try.underlying41 infoQa ?_)
  have hD : Below w104.heap.size w104 w104.drew := (Below.refl _ _).drew
  have hAD := (HAS.out.on F106.out.drew).wide F106.out.drew.size
  refine wp_region_ord [(0, false), (1, false), (2, true), (3, true), (4, true)] (fun wz => Below w104.heap.size w104 wz) mixes (by kernel_rfl) hD ?_
  repeat (refine ord_float rfl rfl (fun K hK => ⟨_, (fun w' hw => by have q0 := (F111.on hw F111.lt).cell 0; have q1 :=  (F111.on hw F111.lt).cell 1; have q2 :=  (F111.on hw F111.lt).cell 2; have q3 :=  (F107.on hw F107.lt).cell 0; have q4 :=  (F107.on hw F107.lt).cell 1; have q5 :=  (F107.on hw F107.lt).cell 2; go_simp; exact rfl), ?_⟩); go_simp; refine hK _ ?_; clear hK K)
  refine ord_call rfl rfl (fun K hK => ⟨_, _, (by go_simp <;> first | exact rfl | exact ⟨rfl, rfl⟩), ?_⟩)
  refine (toSystem_any wiS puS _ nS _ hn1S lsS hz1S _ hAD).mono ?_
  rintro e v1 ⟨gz, vsz, rfl, hRz, hbz⟩
  have hBz := below_then hD hbz
  have hPx := ((F110.out.same (Same.of_below hBz (by omega))).at.wide (c := _) (d := v1.heap.size) (by have := hBz.size; omega))
  have hPz := hRz.at
  clear hRz hbz hD hAD
  refine ⟨_, rfl, hBz, ?_⟩
  go_simp
  refine hK _ _ ?_
  clear hK K
  refine ord_call rfl rfl (fun K hK => ⟨_, _, (by go_simp <;> first | exact rfl | exact ⟨rfl, rfl⟩), ?_⟩)
  refine (eqSystem_any wiS puS _ _ nS _ _ hn1S lsS hz1S _ hPx hPz).mono ?_
  rintro e v2 ⟨rfl, hby⟩
  have hBy := below_then hBz hby
  clear hby hBz hPx hPz
  refine ⟨_, rfl, hBy, ?_⟩
  go_simp
  refine hK _ _ ?_
  clear hK K
  refine ord_op rfl rfl (fun K hK => ⟨_, _, (by go_simp <;> first | exact ⟨rfl, rfl⟩ | exact rfl), hBy, ?_⟩)
  go_simp
  refine hK _ _ ?_
  clear hK K
  refine ord_nil ?_
  have hsv2 : w104.heap.size ≤ v2.heap.size := hBy.size
  have F114 : Hid (Below w.heap.size w v2) := F106.out.trans (hBy.mono F106.out.size)
  have F115 := F107.on hBy F107.lt
  have F116 : Hid (Tri 27 w13.heap.size w26.heap.size v2 (.slice ra31 nR rc32) nR vs23 UR (.slice ra34 nR rc35) nR vs24 VR (.slice ra37 nR rc38) nR vs25 XR) := F108.out.same (Same.of_below hBy (by omega))
  have F117 := F109.on hBy F109.lt
  have F118 : Hid (NOwnV 3 35 W41.heap.size w51.heap.size v2 (.slice (some ⟨g48, 0, none⟩) nS nS) nS vs50 lsS) := F110.out.same (Same.of_below hBy (by omega))
  have F119 := F111.on hBy F111.lt
  have F120 : Hid (Tri 27 W58.heap.size w75.heap.size v2 (.slice ra83 nR rc84) nR vs72 UR (.slice ra86 nR rc87) nR vs73 VR (.slice ra89 nR rc90) nR vs74 XR) := F112.out.same (Same.of_below hBy (by omega))
  have F121 := F113.on hBy F113.lt
  clear hBy F106 F107 F108 F109 F110 F111 F112 F113
  go_wp2_with (refine load_blk rfl rfl rfl F119 Try.underlying26 infoSy ?_)
  refine (markSystem_any _ _ _ nS _ _ lsS (1) _ _ (by omega) hz1S hn1S _ F118.out (by omega)).mono ?_
  rintro e w122 ⟨rfl, hR123, hk124⟩
  have hsw122 : v2.heap.size ≤ w122.heap.size := hk124.size
  have F125 : Hid (Below w.heap.size w w122) := hk124.bel F114.out F114.out.size (fun k q => by have h3 := q.1; omega)
  have F126 := hk124.blk F115 (fun q => by have h1 := q.1; have h2 := q.2; have h3 := F115.lt; omega)
  have F127 : Hid (Tri 27 w13.heap.size w26.heap.size w122 (.slice ra31 nR rc32) nR vs23 UR (.slice ra34 nR rc35) nR vs24 VR (.slice ra37 nR rc38) nR vs25 XR) := F116.out.same (Same.of_kps hk124 (by omega) (fun k h1 h2 q => by have h3 := q.1; have h4 := q.2; omega))
  have F128 := hk124.blk F117 (fun q => by have h1 := q.1; have h2 := q.2; have h3 := F117.lt; omega)
  have F129 := hk124.blk F119 (fun q => by have h1 := q.1; have h2 := q.2; have h3 := F119.lt; omega)
  have F130 : Hid (Tri 27 W58.heap.size w75.heap.size w122 (.slice ra83 nR rc84) nR vs72 UR (.slice ra86 nR rc87) nR vs73 VR (.slice ra89 nR rc90) nR vs74 XR) := F120.out.same (Same.of_kps hk124 (by omega) (fun k h1 h2 q => by have h3 := q.1; have h4 := q.2; omega))
  have F131 := hk124.blk F121 (fun q => by have h1 := q.1; have h2 := q.2; have h3 := F121.lt; omega)
  clear hk124 F114 F115 F116 F117 F119 F120 F121
  have F132 : Hid (NOwnV 3 35 W41.heap.size w51.heap.size w122 (.slice (some ⟨g48, 0, none⟩) nS nS) nS vs50 (mkzz (1) lsS)) := hR123
  clear hR123 F118
  have hkp : ¬ ((1 + tot lsS : Nat) : Int) < 0 := by omega
  clear F132
  have q133 := F131.c30
  have q134 := F131.c31
  have q135 := F131.c32
  have q136 := F128.c30
  have q137 := F128.c31
  have q138 := F128.c32
  go_wp2_with fail
  refine (eqQap_any _ _ _ _ _ _ nR UR VR XR hbUR hbVR hbXR hbnR _ (F130.out.u.at.wide (by omega)) (F130.out.v.at.wide (by omega)) (F130.out.x.at.wide (by omega)) (F127.out.u.at.wide (by omega)) (F127.out.v.at.wide (by omega)) (F127.out.x.at.wide (by omega))).mono ?_
  rintro e w139 ⟨rfl, hb140⟩
  have hsw139 : w122.heap.size ≤ w139.heap.size := hb140.size
  have F141 : Hid (Below w.heap.size w w139) := F125.out.trans (hb140.mono F125.out.size)
  have F142 := F126.on hb140 F126.lt
  have F143 : Hid (Tri 27 w13.heap.size w26.heap.size w139 (.slice ra31 nR rc32) nR vs23 UR (.slice ra34 nR rc35) nR vs24 VR (.slice ra37 nR rc38) nR vs25 XR) := F127.out.same (Same.of_below hb140 (by omega))
  have F144 := F128.on hb140 F128.lt
  have F145 := F129.on hb140 F129.lt
  have F146 : Hid (Tri 27 W58.heap.size w75.heap.size w139 (.slice ra83 nR rc84) nR vs72 UR (.slice ra86 nR rc87) nR vs73 VR (.slice ra89 nR rc90) nR vs74 XR) := F130.out.same (Same.of_below hb140 (by omega))
  have F147 := F131.on hb140 F131.lt
  clear hb140 F125 F126 F127 F128 F129 F130 F131
  clear q133 q134 q135 q136 q137 q138
  go_wp2_with (refine load_blk rfl rfl rfl F147 Try.underlying41 infoQa ?_)
  refine (markQap_any _ _ _ _ nR _ _ _ UR VR XR (1) _ _ (by omega) hbUR hbVR hbXR hbnR _ F146.out (by omega)).mono ?_
  rintro e w148 ⟨rfl, hR149, hk150⟩
  have hsw148 : w139.heap.size ≤ w148.heap.size := hk150.size
  have F151 : Hid (Below w.heap.size w w148) := hk150.bel F141.out F141.out.size (fun k q => by have h3 := q.1; omega)
  have F152 := hk150.blk F142 (fun q => by have h1 := q.1; have h2 := q.2; have h3 := F142.lt; omega)
  have F153 : Hid (Tri 27 w13.heap.size w26.heap.size w148 (.slice ra31 nR rc32) nR vs23 UR (.slice ra34 nR rc35) nR vs24 VR (.slice ra37 nR rc38) nR vs25 XR) := F143.out.same (Same.of_kps hk150 (by omega) (fun k h1 h2 q => by have h3 := q.1; have h4 := q.2; omega))
  have F154 := hk150.blk F144 (fun q => by have h1 := q.1; have h2 := q.2; have h3 := F144.lt; omega)
  have F155 := hk150.blk F145 (fun q => by have h1 := q.1; have h2 := q.2; have h3 := F145.lt; omega)
  have F156 := hk150.blk F147 (fun q => by have h1 := q.1; have h2 := q.2; have h3 := F147.lt; omega)
  clear hk150 F141 F142 F143 F144 F145 F147
  have F157 : Hid (Tri 27 W58.heap.size w75.heap.size w148 (.slice ra83 nR rc84) nR vs72 (mkzz (1) UR) (.slice ra86 nR rc87) nR vs73 (mkzz (1 + tot UR) VR) (.slice ra89 nR rc90) nR vs74 (mkzz (1 + tot UR + tot VR) XR)) := hR149
  clear hR149 F146
  have hkm : ¬ ((1 + tot UR + tot VR + tot XR : Nat) : Int) < 0 := by omega
  go_wp2_with (refine load_blk rfl rfl rfl F156 Try.underlying41 infoQa ?_)
  refine (heldQap_any _ _ _ _ nR _ _ _ UR VR XR (1) _ _ hlUR hlVR hlXR (by omega) hbUR hbVR hbXR hbnR _ F157.out (by omega)).mono ?_
  rintro e w158 ⟨rfl, hb159⟩
  have hsw158 : w148.heap.size ≤ w158.heap.size := hb159.size
  have F160 : Hid (Below w.heap.size w w158) := F151.out.trans (hb159.mono F151.out.size)
  have F161 := F152.on hb159 F152.lt
  have F162 : Hid (Tri 27 w13.heap.size w26.heap.size w158 (.slice ra31 nR rc32) nR vs23 UR (.slice ra34 nR rc35) nR vs24 VR (.slice ra37 nR rc38) nR vs25 XR) := F153.out.same (Same.of_below hb159 (by omega))
  have F163 := F154.on hb159 F154.lt
  have F164 := F155.on hb159 F155.lt
  have F165 : Hid (Tri 27 W58.heap.size w75.heap.size w158 (.slice ra83 nR rc84) nR vs72 (mkzz (1) UR) (.slice ra86 nR rc87) nR vs73 (mkzz (1 + tot UR) VR) (.slice ra89 nR rc90) nR vs74 (mkzz (1 + tot UR + tot VR) XR)) := F157.out.same (Same.of_below hb159 (by omega))
  have F166 := F156.on hb159 F156.lt
  clear hb159 F151 F152 F153 F154 F155 F157 F156
  go_wp2_with (refine load_blk rfl rfl rfl F161 Try.underlying53 infoSl ?_)
  refine (toSystem_any wiS puS _ nS _ hn1S lsS hz1S _ ((HAS.out.on F160.out).wide F160.out.size)).mono ?_
  rintro e w170 ⟨g167, vs169, rfl, hO168, hb171⟩
  unfold sysV
  have hsw170 : w158.heap.size ≤ w170.heap.size := hb171.size
  have F172 : Hid (Below w.heap.size w w170) := F160.out.trans (hb171.mono F160.out.size)
  have F173 := F161.on hb171 F161.lt
  have F174 : Hid (Tri 27 w13.heap.size w26.heap.size w170 (.slice ra31 nR rc32) nR vs23 UR (.slice ra34 nR rc35) nR vs24 VR (.slice ra37 nR rc38) nR vs25 XR) := F162.out.same (Same.of_below hb171 (by omega))
  have F175 := F163.on hb171 F163.lt
  have F176 := F164.on hb171 F164.lt
  have F177 : Hid (Tri 27 W58.heap.size w75.heap.size w170 (.slice ra83 nR rc84) nR vs72 (mkzz (1) UR) (.slice ra86 nR rc87) nR vs73 (mkzz (1 + tot UR) VR) (.slice ra89 nR rc90) nR vs74 (mkzz (1 + tot UR + tot VR) XR)) := F165.out.same (Same.of_below hb171 (by omega))
  have F178 := F166.on hb171 F166.lt
  clear hb171 F160 F161 F162 F163 F164 F165 F166
  have F179 : Hid (NOwnV 3 35 w158.heap.size w170.heap.size w170 (.slice (some ⟨g167, 0, none⟩) nS nS) nS vs169 lsS) := hO168
  clear hO168
  go_wp2_with (refine load_blk rfl rfl rfl F173 Try.underlying53 infoSl ?_)
  refine (HQ1.out _ _ _ (F179.out.at.wide (by omega))).mono ?_
  rintro e w188 ⟨v182, v183, v184, vs185, vs186, vs187, rfl, hO181, hb189⟩
  have hsw188 : w170.heap.size ≤ w188.heap.size := hb189.size
  have F190 : Hid (Below w.heap.size w w188) := F172.out.trans (hb189.mono F172.out.size)
  have F191 := F173.on hb189 F173.lt
  have F192 : Hid (Tri 27 w13.heap.size w26.heap.size w188 (.slice ra31 nR rc32) nR vs23 UR (.slice ra34 nR rc35) nR vs24 VR (.slice ra37 nR rc38) nR vs25 XR) := F174.out.same (Same.of_below hb189 (by omega))
  have F193 := F175.on hb189 F175.lt
  have F194 := F176.on hb189 F176.lt
  have F195 : Hid (Tri 27 W58.heap.size w75.heap.size w188 (.slice ra83 nR rc84) nR vs72 (mkzz (1) UR) (.slice ra86 nR rc87) nR vs73 (mkzz (1 + tot UR) VR) (.slice ra89 nR rc90) nR vs74 (mkzz (1 + tot UR + tot VR) XR)) := F177.out.same (Same.of_below hb189 (by omega))
  have F196 := F178.on hb189 F178.lt
  have F197 : Hid (NOwnV 3 35 w158.heap.size w170.heap.size w188 (.slice (some ⟨g167, 0, none⟩) nS nS) nS vs169 lsS) := F179.out.same (Same.of_below hb189 (by omega))
  clear hb189 F172 F173 F174 F175 F176 F177 F178 F179
  obtain ⟨ra198, rc199, hv200⟩ := row_form hO181.u.row
  subst hv200
  obtain ⟨ra201, rc202, hv203⟩ := row_form hO181.v.row
  subst hv203
  obtain ⟨ra204, rc205, hv206⟩ := row_form hO181.x.row
  subst hv206
  have F207 : Hid (Tri 27 w170.heap.size w188.heap.size w188 (.slice ra198 nR rc199) nR vs185 UR (.slice ra201 nR rc202) nR vs186 VR (.slice ra204 nR rc205) nR vs187 XR) := hO181
  clear hO181
  clear HQ1
  clear F197
  obtain ⟨W208, hE209, hb210, F211⟩ := box1 w188 41 #[.slice ra198 nR rc199, .slice ra201 nR rc202, .slice ra204 nR rc205]
  have hlW208 : w188.heap.size < W208.heap.size := F211.lt
  have hsW208 : w188.heap.size ≤ W208.heap.size := hb210.size
  have F212 : Hid (Below w.heap.size w W208) := F190.out.trans (hb210.mono F190.out.size)
  have F213 := F191.on hb210 F191.lt
  have F214 : Hid (Tri 27 w13.heap.size w26.heap.size W208 (.slice ra31 nR rc32) nR vs23 UR (.slice ra34 nR rc35) nR vs24 VR (.slice ra37 nR rc38) nR vs25 XR) := F192.out.same (Same.of_below hb210 (by omega))
  have F215 := F193.on hb210 F193.lt
  have F216 := F194.on hb210 F194.lt
  have F217 : Hid (Tri 27 W58.heap.size w75.heap.size W208 (.slice ra83 nR rc84) nR vs72 (mkzz (1) UR) (.slice ra86 nR rc87) nR vs73 (mkzz (1 + tot UR) VR) (.slice ra89 nR rc90) nR vs74 (mkzz (1 + tot UR + tot VR) XR)) := F195.out.same (Same.of_below hb210 (by omega))
  have F218 := F196.on hb210 F196.lt
  have F219 : Hid (Tri 27 w170.heap.size w188.heap.size W208 (.slice ra198 nR rc199) nR vs185 UR (.slice ra201 nR rc202) nR vs186 VR (.slice ra204 nR rc205) nR vs187 XR) := F207.out.same (Same.of_below hb210 (by omega))
  clear hb210 F190 F191 F192 F193 F194 F195 F196 F207
  go_wp2_with (first | (refine load_blk rfl rfl rfl F211 Try.underlying41 infoQa ?_) | (refine load_blk rfl rfl rfl F215 Try.underlying41 infoQa ?_))
  refine (eqQap_any _ _ _ _ _ _ nR UR VR XR hbUR hbVR hbXR hbnR _ (F219.out.u.at.wide (by omega)) (F219.out.v.at.wide (by omega)) (F219.out.x.at.wide (by omega)) (F214.out.u.at.wide (by omega)) (F214.out.v.at.wide (by omega)) (F214.out.x.at.wide (by omega))).mono ?_
  rintro e w220 ⟨rfl, hb221⟩
  have hsw220 : W208.heap.size ≤ w220.heap.size := hb221.size
  have F222 : Hid (Below w.heap.size w w220) := F212.out.trans (hb221.mono F212.out.size)
  have F223 := F213.on hb221 F213.lt
  have F224 : Hid (Tri 27 w13.heap.size w26.heap.size w220 (.slice ra31 nR rc32) nR vs23 UR (.slice ra34 nR rc35) nR vs24 VR (.slice ra37 nR rc38) nR vs25 XR) := F214.out.same (Same.of_below hb221 (by omega))
  have F225 := F215.on hb221 F215.lt
  have F226 := F216.on hb221 F216.lt
  have F227 : Hid (Tri 27 W58.heap.size w75.heap.size w220 (.slice ra83 nR rc84) nR vs72 (mkzz (1) UR) (.slice ra86 nR rc87) nR vs73 (mkzz (1 + tot UR) VR) (.slice ra89 nR rc90) nR vs74 (mkzz (1 + tot UR + tot VR) XR)) := F217.out.same (Same.of_below hb221 (by omega))
  have F228 := F218.on hb221 F218.lt
  have F229 : Hid (Tri 27 w170.heap.size w188.heap.size w220 (.slice ra198 nR rc199) nR vs185 UR (.slice ra201 nR rc202) nR vs186 VR (.slice ra204 nR rc205) nR vs187 XR) := F219.out.same (Same.of_below hb221 (by omega))
  have F230 := F211.on hb221 F211.lt
  clear hb221 F212 F213 F214 F215 F216 F217 F218 F219 F211
  clear hE209
  go_wp2_with (refine load_blk rfl rfl rfl F228 Try.underlying41 infoQa ?_)
  refine (heldQap_any _ _ _ _ nR _ _ _ UR VR XR (1) _ _ hlUR hlVR hlXR (by omega) hbUR hbVR hbXR hbnR _ F227.out (by omega)).mono ?_
  rintro e w231 ⟨rfl, hb232⟩
  have hsw231 : w220.heap.size ≤ w231.heap.size := hb232.size
  have F233 : Hid (Below w.heap.size w w231) := F222.out.trans (hb232.mono F222.out.size)
  have F234 := F223.on hb232 F223.lt
  have F235 : Hid (Tri 27 w13.heap.size w26.heap.size w231 (.slice ra31 nR rc32) nR vs23 UR (.slice ra34 nR rc35) nR vs24 VR (.slice ra37 nR rc38) nR vs25 XR) := F224.out.same (Same.of_below hb232 (by omega))
  have F236 := F225.on hb232 F225.lt
  have F237 := F226.on hb232 F226.lt
  have F238 : Hid (Tri 27 W58.heap.size w75.heap.size w231 (.slice ra83 nR rc84) nR vs72 (mkzz (1) UR) (.slice ra86 nR rc87) nR vs73 (mkzz (1 + tot UR) VR) (.slice ra89 nR rc90) nR vs74 (mkzz (1 + tot UR + tot VR) XR)) := F227.out.same (Same.of_below hb232 (by omega))
  have F239 := F228.on hb232 F228.lt
  have F240 : Hid (Tri 27 w170.heap.size w188.heap.size w231 (.slice ra198 nR rc199) nR vs185 UR (.slice ra201 nR rc202) nR vs186 VR (.slice ra204 nR rc205) nR vs187 XR) := F229.out.same (Same.of_below hb232 (by omega))
  have F241 := F230.on hb232 F230.lt
  clear hb232 F222 F223 F224 F225 F226 F227 F228 F229 F230
  go_wp2
  go_ret
  exact ⟨rfl, F233.out⟩

end Go.Proofs.Ytjlijflfepffiaa
