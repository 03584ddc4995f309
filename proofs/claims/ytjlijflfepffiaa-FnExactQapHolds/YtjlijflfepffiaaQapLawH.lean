/-
  The walk of the exact law of whether a system holds.
  (-DROP-: what the seat lacks is left out.)
-/
import Derived.Test.YtjlijflfepffiaaQapI7
import Derived.Test.YtjlijflfepffiaaJoined15
import Derived.Test.YtjlijflfepffiaaJoined13
import Derived.Test.YtjlijflfepffiaaJoined10

namespace Go.Proofs.Ytjlijflfepffiaa
open Go.RowKit

theorem iHoldsV (wi pu : Int) (hwf : (Lit.int .i64 wi).wf = true) (a : Option Addr) (n c : Nat) (hn : n ≤ 9223372036854775807) (ls : List (List Int)) (hz : ∀ j, (ls.getD j []).length ≤ 9223372036854775807) (v : Value) (m : List Int) (hm : m.length ≤ 1048576) (x : Int) (w : World) (hA : NAt 3 w w.heap.size (.slice a n c) n ls) (hu : ZAt w w.heap.size v m) :
    Calls Try.prog 16 #[sysV wi pu (.slice a n c), v, .int .i64 x] w fun e w' => e = .returned (.bool (quotB wi pu n ls m)) ∧ Below w.heap.size w w' := by
  have h := hu
  obtain ⟨am, cm, rfl, _⟩ := h
  exact iQHolds_any wi pu hwf a n c hn ls hz am cm m hm x w hA hu
theorem sHoldsV (wi pu : Int) (hwf : (Lit.int .i64 wi).wf = true) (a : Option Addr) (n c : Nat) (hn : n ≤ 9223372036854775807) (ls : List (List Int)) (hz : ∀ j, (ls.getD j []).length ≤ 9223372036854775807) (v : Value) (m : List Int) (hm : m.length ≤ 1048576) (x : Int) (w : World) (hA : NAt 3 w w.heap.size (.slice a n c) n ls) (hu : ZAt w w.heap.size v m) :
    Calls Try.prog 28 #[sysV wi pu (.slice a n c), v, .int .i64 x] w fun e w' => e = .returned (.bool (quotB wi pu n ls m)) ∧ Below w.heap.size w w' := by
  have h := hu
  obtain ⟨am, cm, rfl, _⟩ := h
  exact sQHolds_any wi pu hwf a n c hn ls hz am cm m hm x w hA hu

set_option maxHeartbeats 6400000 in
set_option maxRecDepth 100000 in
theorem lawQapHolds (wiS puS : Int) (aS : Option Addr) (nS cS : Nat) (aW : Option Addr) (nW cW : Nat) (X : Int) (hwS : (Lit.int .i64 wiS).wf = true) (hnS : nS ≤ 9223372036854775807) (hnW : nW ≤ 9223372036854775807) (_hX : (Lit.int .i64 X).wf = true) (lsS : List (List Int)) (hzS : ∀ j, (lsS.getD j []).length ≤ 9223372036854775807) (fW : Nat → Int) (w : World) (hAS : NAt 3 w w.heap.size (.slice aS nS cS) nS lsS) (hAW : IntsAt w aW nW w.heap.size fW) :
    Calls Try.prog 8 #[sysV wiS puS (.slice aS nS cS), .slice aW nW cW, .int .i64 X] w fun e w' => e = .returned (.bool true) ∧ Below w.heap.size w w' := by
  unfold sysV
  have HAS : Hid (NAt 3 w w.heap.size (.slice aS nS cS) nS lsS) := hAS
  clear hAS
  obtain ⟨lW, hlW⟩ : ∃ l, l = zls fW nW := ⟨_, rfl⟩
  have hllW : Hid (lW.length = nW) := by rw [hlW]; exact zls_length _ _
  have HAW : Hid (ZAt w w.heap.size (.slice aW nW cW) lW) := by rw [hlW]; exact ZAt.of hAW
  clear hlW hAW
  by_cases hbW : 1048576 < nW
  · have hbW' : (1048576 : Int) < (nW : Int) := by omega
    go_enter Try.func8, Try.ntmps8
    go_wp2
    go_ret
    exact ⟨rfl, (Below.refl _ _).alloc (Nat.le_refl _) _⟩
  have hbW' : ¬ (1048576 : Int) < (nW : Int) := by omega
  have hn1W : lW.length ≤ 1048576 := by have := hllW.out; omega
  have HB0 : Hid (Below w.heap.size w w) := Below.refl _ _
  have HZS : Hid (szF 1048576 (nS + tot lsS) = -1 ∨ (¬ szF 1048576 (nS + tot lsS) < 0 ∧ nS + tot lsS ≤ 1048576)) := by show _ ∨ _; unfold szF; by_cases h : nS + tot lsS ≤ 1048576 <;> simp [h] <;> omega
  obtain ⟨W1, hE2, hb3, F4⟩ := box1 w 53 #[.int .i64 wiS, .int .i64 puS, .slice aS nS cS]
  have hlW1 : w.heap.size < W1.heap.size := F4.lt
  have hsW1 : w.heap.size ≤ W1.heap.size := hb3.size
  have F5 : Hid (Below w.heap.size w W1) := HB0.out.trans (hb3.mono HB0.out.size)
  clear hb3 HB0
  have HSZ : Hid (Calls Try.prog 29 #[.agg #[.int .i64 wiS, .int .i64 puS, .slice aS nS cS], .int .i64 1048576] W1 fun e w' => e = .returned (.int .i64 (szF 1048576 (nS + tot lsS))) ∧ Below W1.heap.size W1 w') := szSystem_any wiS puS aS nS cS hnS lsS hzS W1 ((HAS.out.on F5.out).wide F5.out.size)
  generalize szF 1048576 (nS + tot lsS) = left at HZS HSZ
  rcases HZS.out with rfl | ⟨hleft, htotS⟩
  · skip
    go_enter Try.func8, Try.ntmps8
    go_wp2_with (refine load_blk rfl rfl rfl F4 Try.underlying53 infoSl ?_)
    clear hE2
    refine HSZ.out.mono ?_
    rintro e wz ⟨rfl, hbz⟩
    have hBz := F5.out.trans (hbz.mono F5.out.size)
    clear hbz HSZ
    go_wp2
    go_ret
    exact ⟨rfl, hBz⟩
  have hn1S : nS ≤ 1048576 := by omega
  have hz1S : ∀ j, (lsS.getD j []).length ≤ 1048576 := fun j => by
    rcases Nat.lt_or_ge j lsS.length with h | h
    · have := tot_at_le lsS h; omega
    · have e : lsS.getD j [] = [] := by simp [h]
      rw [e]; exact Nat.zero_le _
  clear HZS
  obtain ⟨R, hq1, hq2⟩ : ∃ (R : Bool) , (∀ avS cvS vW w, NAt 3 w w.heap.size (.slice avS nS cvS) nS lsS → ZAt w w.heap.size vW lW → Calls Try.prog 16 #[sysV wiS puS (.slice avS nS cvS), vW, .int .i64 X] w fun e w' => e = .returned (.bool R) ∧ Below w.heap.size w w') ∧ (∀ avS cvS vW w, NAt 3 w w.heap.size (.slice avS nS cvS) nS lsS → ZAt w w.heap.size vW lW → Calls Try.prog 28 #[sysV wiS puS (.slice avS nS cvS), vW, .int .i64 X] w fun e w' => e = .returned (.bool R) ∧ Below w.heap.size w w') := ⟨_, fun avS cvS vW w hS hW => (iHoldsV wiS puS hwS avS nS cvS (by omega) lsS (fun j => Nat.le_trans (hz1S j) (by decide)) vW lW hn1W X w hS hW), fun avS cvS vW w hS hW => (sHoldsV wiS puS hwS avS nS cvS (by omega) lsS (fun j => Nat.le_trans (hz1S j) (by decide)) vW lW hn1W X w hS hW)⟩
  have HQ1 : Hid _ := hq1
  have HQ2 : Hid _ := hq2
  clear hq1 hq2
  unfold sysV at HQ1 HQ2
  go_enter Try.func8, Try.ntmps8
  go_wp2_with (refine load_blk rfl rfl rfl F4 Try.underlying53 infoSl ?_)
  clear hE2
  refine HSZ.out.mono ?_
  rintro e w6 ⟨rfl, hb7⟩
  clear HSZ
  have hsw6 : W1.heap.size ≤ w6.heap.size := hb7.size
  have F8 : Hid (Below w.heap.size w w6) := F5.out.trans (hb7.mono F5.out.size)
  have F9 := F4.on hb7 F4.lt
  clear hb7 F5 F4
  go_wp2_with (refine load_blk rfl rfl rfl F9 Try.underlying53 infoSl ?_)
  refine (toSystem_any wiS puS _ nS _ hn1S lsS hz1S _ ((HAS.out.on F8.out).wide F8.out.size)).mono ?_
  rintro e w13 ⟨g10, vs12, rfl, hO11, hb14⟩
  unfold sysV
  have hsw13 : w6.heap.size ≤ w13.heap.size := hb14.size
  have F15 : Hid (Below w.heap.size w w13) := F8.out.trans (hb14.mono F8.out.size)
  have F16 := F9.on hb14 F9.lt
  clear hb14 F8 F9
  have F17 : Hid (NOwnV 3 35 w6.heap.size w13.heap.size w13 (.slice (some ⟨g10, 0, none⟩) nS nS) nS vs12 lsS) := hO11
  clear hO11
  go_wp2_with (refine load_blk rfl rfl rfl F16 Try.underlying53 infoSl ?_)
  refine (toZ_any _ lW hn1W _ ((HAW.out.on F15.out).wide F15.out.size)).mono ?_
  rintro e w20 ⟨g18, rfl, hO19, hb21⟩
  have hsw20 : w13.heap.size ≤ w20.heap.size := hb21.size
  have F22 : Hid (Below w.heap.size w w20) := F15.out.trans (hb21.mono F15.out.size)
  have F23 := F16.on hb21 F16.lt
  have F24 : Hid (NOwnV 3 35 w6.heap.size w13.heap.size w20 (.slice (some ⟨g10, 0, none⟩) nS nS) nS vs12 lsS) := F17.out.same (Same.of_below hb21 (by omega))
  clear hb21 F15 F16 F17
  have F25 : Hid (ZOwn w13.heap.size w20.heap.size w20 (.slice (some ⟨g18, 0, none⟩) lW.length lW.length) lW) := hO19
  clear hO19
  go_wp2_with (refine load_blk rfl rfl rfl F23 Try.underlying53 infoSl ?_)
  refine (HQ2.out _ _  _ _ (F24.out.at.wide (by omega)) (F25.out.at.wide (by omega))).mono ?_
  rintro e w26 ⟨rfl, hb27⟩
  have hsw26 : w20.heap.size ≤ w26.heap.size := hb27.size
  have F28 : Hid (Below w.heap.size w w26) := F22.out.trans (hb27.mono F22.out.size)
  have F29 := F23.on hb27 F23.lt
  have F30 : Hid (NOwnV 3 35 w6.heap.size w13.heap.size w26 (.slice (some ⟨g10, 0, none⟩) nS nS) nS vs12 lsS) := F24.out.same (Same.of_below hb27 (by omega))
  have F31 : Hid (ZOwn w13.heap.size w20.heap.size w26 (.slice (some ⟨g18, 0, none⟩) lW.length lW.length) lW) := F25.out.same (Same.of_below hb27 (by omega))
  clear hb27 F22 F23 F24 F25
  clear HQ2
  clear F30 F31
  go_wp2_with (refine load_blk rfl rfl rfl F29 Try.underlying53 infoSl ?_)
  refine (toSystem_any wiS puS _ nS _ hn1S lsS hz1S _ ((HAS.out.on F28.out).wide F28.out.size)).mono ?_
  rintro e w35 ⟨g32, vs34, rfl, hO33, hb36⟩
  unfold sysV
  have hsw35 : w26.heap.size ≤ w35.heap.size := hb36.size
  have F37 : Hid (Below w.heap.size w w35) := F28.out.trans (hb36.mono F28.out.size)
  have F38 := F29.on hb36 F29.lt
  clear hb36 F28 F29
  have F39 : Hid (NOwnV 3 35 w26.heap.size w35.heap.size w35 (.slice (some ⟨g32, 0, none⟩) nS nS) nS vs34 lsS) := hO33
  clear hO33
  obtain ⟨W40, hE41, hb42, F43⟩ := box1 w35 26 #[.int .i64 wiS, .int .i64 puS, .slice (some ⟨g32, 0, none⟩) nS nS]
  have hlW40 : w35.heap.size < W40.heap.size := F43.lt
  have hsW40 : w35.heap.size ≤ W40.heap.size := hb42.size
  have F44 : Hid (Below w.heap.size w W40) := F37.out.trans (hb42.mono F37.out.size)
  have F45 := F38.on hb42 F38.lt
  have F46 : Hid (NOwnV 3 35 w26.heap.size w35.heap.size W40 (.slice (some ⟨g32, 0, none⟩) nS nS) nS vs34 lsS) := F39.out.same (Same.of_below hb42 (by omega))
  clear hb42 F37 F38 F39
  go_wp2_with (refine load_blk rfl rfl rfl F45 Try.underlying53 infoSl ?_)
  refine (toZ_any _ lW hn1W _ ((HAW.out.on F44.out).wide F44.out.size)).mono ?_
  rintro e w49 ⟨g47, rfl, hO48, hb50⟩
  have hsw49 : W40.heap.size ≤ w49.heap.size := hb50.size
  have F51 : Hid (Below w.heap.size w w49) := F44.out.trans (hb50.mono F44.out.size)
  have F52 := F45.on hb50 F45.lt
  have F53 : Hid (NOwnV 3 35 w26.heap.size w35.heap.size w49 (.slice (some ⟨g32, 0, none⟩) nS nS) nS vs34 lsS) := F46.out.same (Same.of_below hb50 (by omega))
  have F54 := F43.on hb50 F43.lt
  clear hb50 F44 F45 F46 F43
  have F55 : Hid (ZOwn W40.heap.size w49.heap.size w49 (.slice (some ⟨g47, 0, none⟩) lW.length lW.length) lW) := hO48
  clear hO48
  clear hE41
  go_wp2_with (first | (refine load_blk rfl rfl rfl F52 Try.underlying53 infoSl ?_) | (refine load_blk rfl rfl rfl F54 Try.underlying26 infoSy ?_))
  refine (HQ1.out _ _  _ _ (F53.out.at.wide (by omega)) (F55.out.at.wide (by omega))).mono ?_
  rintro e w56 ⟨rfl, hb57⟩
  have hsw56 : w49.heap.size ≤ w56.heap.size := hb57.size
  have F58 : Hid (Below w.heap.size w w56) := F51.out.trans (hb57.mono F51.out.size)
  have F59 := F52.on hb57 F52.lt
  have F60 : Hid (NOwnV 3 35 w26.heap.size w35.heap.size w56 (.slice (some ⟨g32, 0, none⟩) nS nS) nS vs34 lsS) := F53.out.same (Same.of_below hb57 (by omega))
  have F61 := F54.on hb57 F54.lt
  have F62 : Hid (ZOwn W40.heap.size w49.heap.size w56 (.slice (some ⟨g47, 0, none⟩) lW.length lW.length) lW) := F55.out.same (Same.of_below hb57 (by omega))
  clear hb57 F51 F52 F53 F54 F55
  go_wp2_with fail
  have hD : Below w56.heap.size w56 w56.drew := (Below.refl _ _).drew
  have hAD := (HAS.out.on F58.out.drew).wide F58.out.drew.size
  refine wp_region_ord [(0, false), (1, false), (2, true), (3, true), (4, true)] (fun wz => Below w56.heap.size w56 wz) mixes (by kernel_rfl) hD ?_
  repeat (refine ord_float rfl rfl (fun K hK => ⟨_, (fun w' hw => by have q0 := (F61.on hw F61.lt).cell 0; have q1 :=  (F61.on hw F61.lt).cell 1; have q2 :=  (F61.on hw F61.lt).cell 2; have q3 :=  (F59.on hw F59.lt).cell 0; have q4 :=  (F59.on hw F59.lt).cell 1; have q5 :=  (F59.on hw F59.lt).cell 2; go_simp; exact rfl), ?_⟩); go_simp; refine hK _ ?_; clear hK K)
  refine ord_call rfl rfl (fun K hK => ⟨_, _, (by go_simp <;> first | exact rfl | exact ⟨rfl, rfl⟩), ?_⟩)
  refine (toSystem_any wiS puS _ nS _ hn1S lsS hz1S _ hAD).mono ?_
  rintro e v1 ⟨gz, vsz, rfl, hRz, hbz⟩
  have hBz := below_then hD hbz
  have hPx := ((F60.out.same (Same.of_below hBz (by omega))).at.wide (c := _) (d := v1.heap.size) (by have := hBz.size; omega))
  have hPz := hRz.at
  clear hRz hbz hD hAD
  refine ⟨_, rfl, hBz, ?_⟩
  go_simp
  refine hK _ _ ?_
  clear hK K
  refine ord_call rfl rfl (fun K hK => ⟨_, _, (by go_simp <;> first | exact rfl | exact ⟨rfl, rfl⟩), ?_⟩)
  refine (eqSystem_any wiS puS _ _ nS _ _ hn1S lsS hz1S _ hPx hPz).mono ?_
  rintro e v2 ⟨rfl, hby⟩
  have hBy := below_then hBz hby
  clear hby hBz hPx hPz
  refine ⟨_, rfl, hBy, ?_⟩
  go_simp
  refine hK _ _ ?_
  clear hK K
  refine ord_op rfl rfl (fun K hK => ⟨_, _, (by go_simp <;> first | exact ⟨rfl, rfl⟩ | exact rfl), hBy, ?_⟩)
  go_simp
  refine hK _ _ ?_
  clear hK K
  refine ord_nil ?_
  have hsv2 : w56.heap.size ≤ v2.heap.size := hBy.size
  have F63 : Hid (Below w.heap.size w v2) := F58.out.trans (hBy.mono F58.out.size)
  have F64 := F59.on hBy F59.lt
  have F65 : Hid (NOwnV 3 35 w26.heap.size w35.heap.size v2 (.slice (some ⟨g32, 0, none⟩) nS nS) nS vs34 lsS) := F60.out.same (Same.of_below hBy (by omega))
  have F66 := F61.on hBy F61.lt
  have F67 : Hid (ZOwn W40.heap.size w49.heap.size v2 (.slice (some ⟨g47, 0, none⟩) lW.length lW.length) lW) := F62.out.same (Same.of_below hBy (by omega))
  clear hBy F58 F59 F60 F61 F62
  go_wp2_with (refine load_blk rfl rfl rfl F64 Try.underlying53 infoSl ?_)
  refine (toZ_any _ lW hn1W _ ((HAW.out.on F63.out).wide F63.out.size)).mono ?_
  rintro e w70 ⟨g68, rfl, hO69, hb71⟩
  have hsw70 : v2.heap.size ≤ w70.heap.size := hb71.size
  have F72 : Hid (Below w.heap.size w w70) := F63.out.trans (hb71.mono F63.out.size)
  have F73 := F64.on hb71 F64.lt
  have F74 : Hid (NOwnV 3 35 w26.heap.size w35.heap.size w70 (.slice (some ⟨g32, 0, none⟩) nS nS) nS vs34 lsS) := F65.out.same (Same.of_below hb71 (by omega))
  have F75 := F66.on hb71 F66.lt
  have F76 : Hid (ZOwn W40.heap.size w49.heap.size w70 (.slice (some ⟨g47, 0, none⟩) lW.length lW.length) lW) := F67.out.same (Same.of_below hb71 (by omega))
  clear hb71 F63 F64 F65 F66 F67
  have F77 : Hid (ZOwn v2.heap.size w70.heap.size w70 (.slice (some ⟨g68, 0, none⟩) lW.length lW.length) lW) := hO69
  clear hO69
  go_wp2_with fail
  refine (eqZ_any _ _ lW hn1W _ (F76.out.at.wide (by omega)) (F77.out.at.wide (by omega))).mono ?_
  rintro e w78 ⟨rfl, hb79⟩
  have hsw78 : w70.heap.size ≤ w78.heap.size := hb79.size
  have F80 : Hid (Below w.heap.size w w78) := F72.out.trans (hb79.mono F72.out.size)
  have F81 := F73.on hb79 F73.lt
  have F82 : Hid (NOwnV 3 35 w26.heap.size w35.heap.size w78 (.slice (some ⟨g32, 0, none⟩) nS nS) nS vs34 lsS) := F74.out.same (Same.of_below hb79 (by omega))
  have F83 := F75.on hb79 F75.lt
  have F84 : Hid (ZOwn W40.heap.size w49.heap.size w78 (.slice (some ⟨g47, 0, none⟩) lW.length lW.length) lW) := F76.out.same (Same.of_below hb79 (by omega))
  have F85 : Hid (ZOwn v2.heap.size w70.heap.size w78 (.slice (some ⟨g68, 0, none⟩) lW.length lW.length) lW) := F77.out.same (Same.of_below hb79 (by omega))
  clear hb79 F72 F73 F74 F75 F76 F77
  clear F85
  go_wp2
  go_ret
  exact ⟨rfl, F80.out⟩

end Go.Proofs.Ytjlijflfepffiaa
