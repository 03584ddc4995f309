/-
  The walk of the exact law of the quotient of a system.
  (-DROP-: what the seat lacks is left out.)
-/
import Derived.Test.YtjlijflfepffiaaQapI6
import Derived.Test.YtjlijflfepffiaaJoined15
import Derived.Test.YtjlijflfepffiaaJoined13
import Derived.Test.YtjlijflfepffiaaJoined10

namespace Go.Proofs.Ytjlijflfepffiaa
open Go.RowKit

theorem iQuotV (wi pu : Int) (hwf : (Lit.int .i64 wi).wf = true) (a : Option Addr) (n c : Nat) (hn : n ≤ 9223372036854775807) (ls : List (List Int)) (hz : ∀ j, (ls.getD j []).length ≤ 9223372036854775807) (v : Value) (m : List Int) (hm : m.length ≤ 1048576) (w : World) (hA : NAt 3 w w.heap.size (.slice a n c) n ls) (hu : ZAt w w.heap.size v m) :
    Calls Try.prog 12 #[sysV wi pu (.slice a n c), v] w fun e w' => ∃ q, e = .returned (.tuple #[q, .bool (quotB wi pu n ls m)]) ∧ ZOwn w.heap.size w'.heap.size w' q (quotL wi pu n ls m) ∧ Below w.heap.size w w' := by
  have h := hu
  obtain ⟨am, cm, rfl, _⟩ := h
  exact iQuot_any wi pu hwf a n c hn ls hz am cm m hm w hA hu
theorem sQuotV (wi pu : Int) (hwf : (Lit.int .i64 wi).wf = true) (a : Option Addr) (n c : Nat) (hn : n ≤ 9223372036854775807) (ls : List (List Int)) (hz : ∀ j, (ls.getD j []).length ≤ 9223372036854775807) (v : Value) (m : List Int) (hm : m.length ≤ 1048576) (w : World) (hA : NAt 3 w w.heap.size (.slice a n c) n ls) (hu : ZAt w w.heap.size v m) :
    Calls Try.prog 22 #[sysV wi pu (.slice a n c), v] w fun e w' => ∃ q, e = .returned (.tuple #[q, .bool (quotB wi pu n ls m)]) ∧ ZOwn w.heap.size w'.heap.size w' q (quotL wi pu n ls m) ∧ Below w.heap.size w w' := by
  have h := hu
  obtain ⟨am, cm, rfl, _⟩ := h
  exact sQuot_any wi pu hwf a n c hn ls hz am cm m hm w hA hu
theorem quotL_len (wi pu : Int) (n : Nat) (ls : List (List Int)) (m : List Int) : (quotL wi pu n ls m).length ≤ 1048576 := by
  unfold quotL
  split
  · exact pQuo_len _ _
  · exact Nat.zero_le _

set_option maxHeartbeats 6400000 in
set_option maxRecDepth 100000 in
theorem lawQuotientOf (wiS puS : Int) (aS : Option Addr) (nS cS : Nat) (aW : Option Addr) (nW cW : Nat) (hwS : (Lit.int .i64 wiS).wf = true) (hnS : nS ≤ 9223372036854775807) (hnW : nW ≤ 9223372036854775807) (lsS : List (List Int)) (hzS : ∀ j, (lsS.getD j []).length ≤ 9223372036854775807) (fW : Nat → Int) (w : World) (hAS : NAt 3 w w.heap.size (.slice aS nS cS) nS lsS) (hAW : IntsAt w aW nW w.heap.size fW) :
    Calls Try.prog 7 #[sysV wiS puS (.slice aS nS cS), .slice aW nW cW] w fun e w' => e = .returned (.bool true) ∧ Below w.heap.size w w' := by
  unfold sysV
  have HAS : Hid (NAt 3 w w.heap.size (.slice aS nS cS) nS lsS) := hAS
  clear hAS
  obtain ⟨lW, hlW⟩ : ∃ l, l = zls fW nW := ⟨_, rfl⟩
  have hllW : Hid (lW.length = nW) := by rw [hlW]; exact zls_length _ _
  have HAW : Hid (ZAt w w.heap.size (.slice aW nW cW) lW) := by rw [hlW]; exact ZAt.of hAW
  clear hlW hAW
  by_cases hbW : 1048576 < nW
  · have hbW' : (1048576 : Int) < (nW : Int) := by omega
    go_enter Try.func7, Try.ntmps7
    go_wp2
    go_ret
    exact ⟨rfl, (Below.refl _ _).alloc (Nat.le_refl _) _⟩
  have hbW' : ¬ (1048576 : Int) < (nW : Int) := by omega
  have hn1W : lW.length ≤ 1048576 := by have := hllW.out; omega
  have HB0 : Hid (Below w.heap.size w w) := Below.refl _ _
  have HZS : Hid (szF 1048576 (nS + tot lsS) = -1 ∨ (¬ szF 1048576 (nS + tot lsS) < 0 ∧ nS + tot lsS ≤ 1048576)) := by show _ ∨ _; unfold szF; by_cases h : nS + tot lsS ≤ 1048576 <;> simp [h] <;> omega
  obtain ⟨W1, hE2, hb3, F4⟩ := box1 w 53 #[.int .i64 wiS, .int .i64 puS, .slice aS nS cS]
  have hlW1 : w.heap.size < W1.heap.size := F4.lt
  have hsW1 : w.heap.size ≤ W1.heap.size := hb3.size
  have F5 : Hid (Below w.heap.size w W1) := HB0.out.trans (hb3.mono HB0.out.size)
  clear hb3 HB0
  have HSZ : Hid (Calls Try.prog 29 #[.agg #[.int .i64 wiS, .int .i64 puS, .slice aS nS cS], .int .i64 1048576] W1 fun e w' => e = .returned (.int .i64 (szF 1048576 (nS + tot lsS))) ∧ Below W1.heap.size W1 w') := szSystem_any wiS puS aS nS cS hnS lsS hzS W1 ((HAS.out.on F5.out).wide F5.out.size)
  generalize szF 1048576 (nS + tot lsS) = left at HZS HSZ
  rcases HZS.out with rfl | ⟨hleft, htotS⟩
  · skip
    go_enter Try.func7, Try.ntmps7
    go_wp2_with (refine load_blk rfl rfl rfl F4 Try.underlying53 infoSl ?_)
    clear hE2
    refine HSZ.out.mono ?_
    rintro e wz ⟨rfl, hbz⟩
    have hBz := F5.out.trans (hbz.mono F5.out.size)
    clear hbz HSZ
    go_wp2
    go_ret
    exact ⟨rfl, hBz⟩
  have hn1S : nS ≤ 1048576 := by omega
  have hz1S : ∀ j, (lsS.getD j []).length ≤ 1048576 := fun j => by
    rcases Nat.lt_or_ge j lsS.length with h | h
    · have := tot_at_le lsS h; omega
    · have e : lsS.getD j [] = [] := by simp [h]
      rw [e]; exact Nat.zero_le _
  clear HZS
  obtain ⟨Q, B, hbd0, hq1, hq2⟩ : ∃ (Q : List Int) (B : Bool) , (Q.length ≤ 1048576) ∧ (∀ avS cvS vW w, NAt 3 w w.heap.size (.slice avS nS cvS) nS lsS → ZAt w w.heap.size vW lW → Calls Try.prog 12 #[sysV wiS puS (.slice avS nS cvS), vW] w fun e w' => ∃ vQ, e = .returned (.tuple #[vQ, .bool B]) ∧ ZOwn w.heap.size w'.heap.size w' vQ Q ∧ Below w.heap.size w w') ∧ (∀ avS cvS vW w, NAt 3 w w.heap.size (.slice avS nS cvS) nS lsS → ZAt w w.heap.size vW lW → Calls Try.prog 22 #[sysV wiS puS (.slice avS nS cvS), vW] w fun e w' => ∃ vQ, e = .returned (.tuple #[vQ, .bool B]) ∧ ZOwn w.heap.size w'.heap.size w' vQ Q ∧ Below w.heap.size w w') := ⟨_, _, quotL_len _ _ _ _ _, fun avS cvS vW w hS hW => (iQuotV wiS puS hwS avS nS cvS (by omega) lsS (fun j => Nat.le_trans (hz1S j) (by decide)) vW lW hn1W w hS hW), fun avS cvS vW w hS hW => (sQuotV wiS puS hwS avS nS cvS (by omega) lsS (fun j => Nat.le_trans (hz1S j) (by decide)) vW lW hn1W w hS hW)⟩
  have HQ1 : Hid _ := hq1
  have HQ2 : Hid _ := hq2
  clear hq1 hq2
  unfold sysV at HQ1 HQ2
  go_enter Try.func7, Try.ntmps7
  go_wp2_with (refine load_blk rfl rfl rfl F4 Try.underlying53 infoSl ?_)
  clear hE2
  refine HSZ.out.mono ?_
  rintro e w6 ⟨rfl, hb7⟩
  clear HSZ
  have hsw6 : W1.heap.size ≤ w6.heap.size := hb7.size
  have F8 : Hid (Below w.heap.size w w6) := F5.out.trans (hb7.mono F5.out.size)
  have F9 := F4.on hb7 F4.lt
  clear hb7 F5 F4
  go_wp2_with (refine load_blk rfl rfl rfl F9 Try.underlying53 infoSl ?_)
  refine (toSystem_any wiS puS _ nS _ hn1S lsS hz1S _ ((HAS.out.on F8.out).wide F8.out.size)).mono ?_
  rintro e w13 ⟨g10, vs12, rfl, hO11, hb14⟩
  unfold sysV
  have hsw13 : w6.heap.size ≤ w13.heap.size := hb14.size
  have F15 : Hid (Below w.heap.size w w13) := F8.out.trans (hb14.mono F8.out.size)
  have F16 := F9.on hb14 F9.lt
  clear hb14 F8 F9
  have F17 : Hid (NOwnV 3 35 w6.heap.size w13.heap.size w13 (.slice (some ⟨g10, 0, none⟩) nS nS) nS vs12 lsS) := hO11
  clear hO11
  go_wp2_with (refine load_blk rfl rfl rfl F16 Try.underlying53 infoSl ?_)
  refine (toZ_any _ lW hn1W _ ((HAW.out.on F15.out).wide F15.out.size)).mono ?_
  rintro e w20 ⟨g18, rfl, hO19, hb21⟩
  have hsw20 : w13.heap.size ≤ w20.heap.size := hb21.size
  have F22 : Hid (Below w.heap.size w w20) := F15.out.trans (hb21.mono F15.out.size)
  have F23 := F16.on hb21 F16.lt
  have F24 : Hid (NOwnV 3 35 w6.heap.size w13.heap.size w20 (.slice (some ⟨g10, 0, none⟩) nS nS) nS vs12 lsS) := F17.out.same (Same.of_below hb21 (by omega))
  clear hb21 F15 F16 F17
  have F25 : Hid (ZOwn w13.heap.size w20.heap.size w20 (.slice (some ⟨g18, 0, none⟩) lW.length lW.length) lW) := hO19
  clear hO19
  go_wp2_with (refine load_blk rfl rfl rfl F23 Try.underlying53 infoSl ?_)
  refine (HQ2.out _ _  _ _ (F24.out.at.wide (by omega)) (F25.out.at.wide (by omega))).mono ?_
  rintro e w28 ⟨v26, rfl, hO27, hb29⟩
  have hsw28 : w20.heap.size ≤ w28.heap.size := hb29.size
  have F30 : Hid (Below w.heap.size w w28) := F22.out.trans (hb29.mono F22.out.size)
  have F31 := F23.on hb29 F23.lt
  have F32 : Hid (NOwnV 3 35 w6.heap.size w13.heap.size w28 (.slice (some ⟨g10, 0, none⟩) nS nS) nS vs12 lsS) := F24.out.same (Same.of_below hb29 (by omega))
  have F33 : Hid (ZOwn w13.heap.size w20.heap.size w28 (.slice (some ⟨g18, 0, none⟩) lW.length lW.length) lW) := F25.out.same (Same.of_below hb29 (by omega))
  clear hb29 F22 F23 F24 F25
  obtain ⟨ra34, rc35, hv36⟩ := row_form hO27.1
  subst hv36
  have F37 : Hid (ZOwn w20.heap.size w28.heap.size w28 (.slice ra34 Q.length rc35) Q) := hO27
  clear hO27
  clear HQ2
  clear F32 F33
  go_wp2_with (refine load_blk rfl rfl rfl F31 Try.underlying53 infoSl ?_)
  refine (toSystem_any wiS puS _ nS _ hn1S lsS hz1S _ ((HAS.out.on F30.out).wide F30.out.size)).mono ?_
  rintro e w41 ⟨g38, vs40, rfl, hO39, hb42⟩
  unfold sysV
  have hsw41 : w28.heap.size ≤ w41.heap.size := hb42.size
  have F43 : Hid (Below w.heap.size w w41) := F30.out.trans (hb42.mono F30.out.size)
  have F44 := F31.on hb42 F31.lt
  have F45 : Hid (ZOwn w20.heap.size w28.heap.size w41 (.slice ra34 Q.length rc35) Q) := F37.out.same (Same.of_below hb42 (by omega))
  clear hb42 F30 F31 F37
  have F46 : Hid (NOwnV 3 35 w28.heap.size w41.heap.size w41 (.slice (some ⟨g38, 0, none⟩) nS nS) nS vs40 lsS) := hO39
  clear hO39
  obtain ⟨W47, hE48, hb49, F50⟩ := box1 w41 26 #[.int .i64 wiS, .int .i64 puS, .slice (some ⟨g38, 0, none⟩) nS nS]
  have hlW47 : w41.heap.size < W47.heap.size := F50.lt
  have hsW47 : w41.heap.size ≤ W47.heap.size := hb49.size
  have F51 : Hid (Below w.heap.size w W47) := F43.out.trans (hb49.mono F43.out.size)
  have F52 := F44.on hb49 F44.lt
  have F53 : Hid (ZOwn w20.heap.size w28.heap.size W47 (.slice ra34 Q.length rc35) Q) := F45.out.same (Same.of_below hb49 (by omega))
  have F54 : Hid (NOwnV 3 35 w28.heap.size w41.heap.size W47 (.slice (some ⟨g38, 0, none⟩) nS nS) nS vs40 lsS) := F46.out.same (Same.of_below hb49 (by omega))
  clear hb49 F43 F44 F45 F46
  go_wp2_with (refine load_blk rfl rfl rfl F52 Try.underlying53 infoSl ?_)
  refine (toZ_any _ lW hn1W _ ((HAW.out.on F51.out).wide F51.out.size)).mono ?_
  rintro e w57 ⟨g55, rfl, hO56, hb58⟩
  have hsw57 : W47.heap.size ≤ w57.heap.size := hb58.size
  have F59 : Hid (Below w.heap.size w w57) := F51.out.trans (hb58.mono F51.out.size)
  have F60 := F52.on hb58 F52.lt
  have F61 : Hid (ZOwn w20.heap.size w28.heap.size w57 (.slice ra34 Q.length rc35) Q) := F53.out.same (Same.of_below hb58 (by omega))
  have F62 : Hid (NOwnV 3 35 w28.heap.size w41.heap.size w57 (.slice (some ⟨g38, 0, none⟩) nS nS) nS vs40 lsS) := F54.out.same (Same.of_below hb58 (by omega))
  have F63 := F50.on hb58 F50.lt
  clear hb58 F51 F52 F53 F54 F50
  have F64 : Hid (ZOwn W47.heap.size w57.heap.size w57 (.slice (some ⟨g55, 0, none⟩) lW.length lW.length) lW) := hO56
  clear hO56
  clear hE48
  go_wp2_with (first | (refine load_blk rfl rfl rfl F60 Try.underlying53 infoSl ?_) | (refine load_blk rfl rfl rfl F63 Try.underlying26 infoSy ?_))
  refine (HQ1.out _ _  _ _ (F62.out.at.wide (by omega)) (F64.out.at.wide (by omega))).mono ?_
  rintro e w67 ⟨v65, rfl, hO66, hb68⟩
  have hsw67 : w57.heap.size ≤ w67.heap.size := hb68.size
  have F69 : Hid (Below w.heap.size w w67) := F59.out.trans (hb68.mono F59.out.size)
  have F70 := F60.on hb68 F60.lt
  have F71 : Hid (ZOwn w20.heap.size w28.heap.size w67 (.slice ra34 Q.length rc35) Q) := F61.out.same (Same.of_below hb68 (by omega))
  have F72 : Hid (NOwnV 3 35 w28.heap.size w41.heap.size w67 (.slice (some ⟨g38, 0, none⟩) nS nS) nS vs40 lsS) := F62.out.same (Same.of_below hb68 (by omega))
  have F73 := F63.on hb68 F63.lt
  have F74 : Hid (ZOwn W47.heap.size w57.heap.size w67 (.slice (some ⟨g55, 0, none⟩) lW.length lW.length) lW) := F64.out.same (Same.of_below hb68 (by omega))
  clear hb68 F59 F60 F61 F62 F63 F64
  obtain ⟨ra75, rc76, hv77⟩ := row_form hO66.1
  subst hv77
  have F78 : Hid (ZOwn w57.heap.size w67.heap.size w67 (.slice ra75 Q.length rc76) Q) := hO66
  clear hO66
  have hbdQ := hbd0
  go_wp2_with fail
  refine (eqZ_any _ _ Q hbdQ _ (F78.out.at.wide (by omega)) (F71.out.at.wide (by omega))).mono ?_
  rintro e w79 ⟨rfl, hb80⟩
  have hsw79 : w67.heap.size ≤ w79.heap.size := hb80.size
  have F81 : Hid (Below w.heap.size w w79) := F69.out.trans (hb80.mono F69.out.size)
  have F82 := F70.on hb80 F70.lt
  have F83 : Hid (ZOwn w20.heap.size w28.heap.size w79 (.slice ra34 Q.length rc35) Q) := F71.out.same (Same.of_below hb80 (by omega))
  have F84 : Hid (NOwnV 3 35 w28.heap.size w41.heap.size w79 (.slice (some ⟨g38, 0, none⟩) nS nS) nS vs40 lsS) := F72.out.same (Same.of_below hb80 (by omega))
  have F85 := F73.on hb80 F73.lt
  have F86 : Hid (ZOwn W47.heap.size w57.heap.size w79 (.slice (some ⟨g55, 0, none⟩) lW.length lW.length) lW) := F74.out.same (Same.of_below hb80 (by omega))
  have F87 : Hid (ZOwn w57.heap.size w67.heap.size w79 (.slice ra75 Q.length rc76) Q) := F78.out.same (Same.of_below hb80 (by omega))
  clear hb80 F69 F70 F71 F72 F73 F74 F78
  go_wp2_with fail
  have hD : Below w79.heap.size w79 w79.drew := (Below.refl _ _).drew
  have hAD := (HAS.out.on F81.out.drew).wide F81.out.drew.size
  refine wp_region_ord [(0, false), (1, false), (2, true), (3, true), (4, true)] (fun wz => Below w79.heap.size w79 wz) mixes (by kernel_rfl) hD ?_
  repeat (refine ord_float rfl rfl (fun K hK => ⟨_, (fun w' hw => by have q0 := (F85.on hw F85.lt).cell 0; have q1 :=  (F85.on hw F85.lt).cell 1; have q2 :=  (F85.on hw F85.lt).cell 2; have q3 :=  (F82.on hw F82.lt).cell 0; have q4 :=  (F82.on hw F82.lt).cell 1; have q5 :=  (F82.on hw F82.lt).cell 2; go_simp; exact rfl), ?_⟩); go_simp; refine hK _ ?_; clear hK K)
  refine ord_call rfl rfl (fun K hK => ⟨_, _, (by go_simp <;> first | exact rfl | exact ⟨rfl, rfl⟩), ?_⟩)
  refine (toSystem_any wiS puS _ nS _ hn1S lsS hz1S _ hAD).mono ?_
  rintro e v1 ⟨gz, vsz, rfl, hRz, hbz⟩
  have hBz := below_then hD hbz
  have hPx := ((F84.out.same (Same.of_below hBz (by omega))).at.wide (c := _) (d := v1.heap.size) (by have := hBz.size; omega))
  have hPz := hRz.at
  clear hRz hbz hD hAD
  refine ⟨_, rfl, hBz, ?_⟩
  go_simp
  refine hK _ _ ?_
  clear hK K
  refine ord_call rfl rfl (fun K hK => ⟨_, _, (by go_simp <;> first | exact rfl | exact ⟨rfl, rfl⟩), ?_⟩)
  refine (eqSystem_any wiS puS _ _ nS _ _ hn1S lsS hz1S _ hPx hPz).mono ?_
  rintro e v2 ⟨rfl, hby⟩
  have hBy := below_then hBz hby
  clear hby hBz hPx hPz
  refine ⟨_, rfl, hBy, ?_⟩
  go_simp
  refine hK _ _ ?_
  clear hK K
  refine ord_op rfl rfl (fun K hK => ⟨_, _, (by go_simp <;> first | exact ⟨rfl, rfl⟩ | exact rfl), hBy, ?_⟩)
  go_simp
  refine hK _ _ ?_
  clear hK K
  refine ord_nil ?_
  have hsv2 : w79.heap.size ≤ v2.heap.size := hBy.size
  have F88 : Hid (Below w.heap.size w v2) := F81.out.trans (hBy.mono F81.out.size)
  have F89 := F82.on hBy F82.lt
  have F90 : Hid (ZOwn w20.heap.size w28.heap.size v2 (.slice ra34 Q.length rc35) Q) := F83.out.same (Same.of_below hBy (by omega))
  have F91 : Hid (NOwnV 3 35 w28.heap.size w41.heap.size v2 (.slice (some ⟨g38, 0, none⟩) nS nS) nS vs40 lsS) := F84.out.same (Same.of_below hBy (by omega))
  have F92 := F85.on hBy F85.lt
  have F93 : Hid (ZOwn W47.heap.size w57.heap.size v2 (.slice (some ⟨g55, 0, none⟩) lW.length lW.length) lW) := F86.out.same (Same.of_below hBy (by omega))
  have F94 : Hid (ZOwn w57.heap.size w67.heap.size v2 (.slice ra75 Q.length rc76) Q) := F87.out.same (Same.of_below hBy (by omega))
  clear hBy F81 F82 F83 F84 F85 F86 F87
  go_wp2_with (refine load_blk rfl rfl rfl F89 Try.underlying53 infoSl ?_)
  refine (toZ_any _ lW hn1W _ ((HAW.out.on F88.out).wide F88.out.size)).mono ?_
  rintro e w97 ⟨g95, rfl, hO96, hb98⟩
  have hsw97 : v2.heap.size ≤ w97.heap.size := hb98.size
  have F99 : Hid (Below w.heap.size w w97) := F88.out.trans (hb98.mono F88.out.size)
  have F100 := F89.on hb98 F89.lt
  have F101 : Hid (ZOwn w20.heap.size w28.heap.size w97 (.slice ra34 Q.length rc35) Q) := F90.out.same (Same.of_below hb98 (by omega))
  have F102 : Hid (NOwnV 3 35 w28.heap.size w41.heap.size w97 (.slice (some ⟨g38, 0, none⟩) nS nS) nS vs40 lsS) := F91.out.same (Same.of_below hb98 (by omega))
  have F103 := F92.on hb98 F92.lt
  have F104 : Hid (ZOwn W47.heap.size w57.heap.size w97 (.slice (some ⟨g55, 0, none⟩) lW.length lW.length) lW) := F93.out.same (Same.of_below hb98 (by omega))
  have F105 : Hid (ZOwn w57.heap.size w67.heap.size w97 (.slice ra75 Q.length rc76) Q) := F94.out.same (Same.of_below hb98 (by omega))
  clear hb98 F88 F89 F90 F91 F92 F93 F94
  have F106 : Hid (ZOwn v2.heap.size w97.heap.size w97 (.slice (some ⟨g95, 0, none⟩) lW.length lW.length) lW) := hO96
  clear hO96
  go_wp2_with fail
  refine (eqZ_any _ _ lW hn1W _ (F104.out.at.wide (by omega)) (F106.out.at.wide (by omega))).mono ?_
  rintro e w107 ⟨rfl, hb108⟩
  have hsw107 : w97.heap.size ≤ w107.heap.size := hb108.size
  have F109 : Hid (Below w.heap.size w w107) := F99.out.trans (hb108.mono F99.out.size)
  have F110 := F100.on hb108 F100.lt
  have F111 : Hid (ZOwn w20.heap.size w28.heap.size w107 (.slice ra34 Q.length rc35) Q) := F101.out.same (Same.of_below hb108 (by omega))
  have F112 : Hid (NOwnV 3 35 w28.heap.size w41.heap.size w107 (.slice (some ⟨g38, 0, none⟩) nS nS) nS vs40 lsS) := F102.out.same (Same.of_below hb108 (by omega))
  have F113 := F103.on hb108 F103.lt
  have F114 : Hid (ZOwn W47.heap.size w57.heap.size w107 (.slice (some ⟨g55, 0, none⟩) lW.length lW.length) lW) := F104.out.same (Same.of_below hb108 (by omega))
  have F115 : Hid (ZOwn w57.heap.size w67.heap.size w107 (.slice ra75 Q.length rc76) Q) := F105.out.same (Same.of_below hb108 (by omega))
  have F116 : Hid (ZOwn v2.heap.size w97.heap.size w107 (.slice (some ⟨g95, 0, none⟩) lW.length lW.length) lW) := F106.out.same (Same.of_below hb108 (by omega))
  clear hb108 F99 F100 F101 F102 F103 F104 F105 F106
  clear F116
  go_wp2_with (refine load_blk rfl rfl rfl F113 Try.underlying26 infoSy ?_)
  refine (markSystem_any _ _ _ nS _ _ lsS (1) _ _ (by omega) hz1S hn1S _ F112.out (by omega)).mono ?_
  rintro e w117 ⟨rfl, hR118, hk119⟩
  have hsw117 : w107.heap.size ≤ w117.heap.size := hk119.size
  have F120 : Hid (Below w.heap.size w w117) := hk119.bel F109.out F109.out.size (fun k q => by have h3 := q.1; omega)
  have F121 := hk119.blk F110 (fun q => by have h1 := q.1; have h2 := q.2; have h3 := F110.lt; omega)
  have F122 : Hid (ZOwn w20.heap.size w28.heap.size w117 (.slice ra34 Q.length rc35) Q) := F111.out.same (Same.of_kps hk119 (by omega) (fun k h1 h2 q => by have h3 := q.1; have h4 := q.2; omega))
  have F123 := hk119.blk F113 (fun q => by have h1 := q.1; have h2 := q.2; have h3 := F113.lt; omega)
  have F124 : Hid (ZOwn W47.heap.size w57.heap.size w117 (.slice (some ⟨g55, 0, none⟩) lW.length lW.length) lW) := F114.out.same (Same.of_kps hk119 (by omega) (fun k h1 h2 q => by have h3 := q.1; have h4 := q.2; omega))
  have F125 : Hid (ZOwn w57.heap.size w67.heap.size w117 (.slice ra75 Q.length rc76) Q) := F115.out.same (Same.of_kps hk119 (by omega) (fun k h1 h2 q => by have h3 := q.1; have h4 := q.2; omega))
  clear hk119 F109 F110 F111 F113 F114 F115
  have F126 : Hid (NOwnV 3 35 w28.heap.size w41.heap.size w117 (.slice (some ⟨g38, 0, none⟩) nS nS) nS vs40 (mkzz (1) lsS)) := hR118
  clear hR118 F112
  go_wp2_with fail
  refine (markZo_any _ lW (1 + tot lsS) _ _ (by omega) hn1W _ F124.out).mono ?_
  rintro e w127 ⟨rfl, hR128, hk129⟩
  have hsw127 : w117.heap.size ≤ w127.heap.size := hk129.size
  have F130 : Hid (Below w.heap.size w w127) := hk129.bel F120.out F120.out.size (fun k q => by have h3 := q.1; omega)
  have F131 := hk129.blk F121 (fun q => by have h1 := q.1; have h2 := q.2; have h3 := F121.lt; omega)
  have F132 : Hid (ZOwn w20.heap.size w28.heap.size w127 (.slice ra34 Q.length rc35) Q) := F122.out.same (Same.of_kps hk129 (by omega) (fun k h1 h2 q => by have h3 := q.1; have h4 := q.2; omega))
  have F133 : Hid (NOwnV 3 35 w28.heap.size w41.heap.size w127 (.slice (some ⟨g38, 0, none⟩) nS nS) nS vs40 (mkzz (1) lsS)) := F126.out.same (Same.of_kps hk129 (by omega) (fun k h1 h2 q => by have h3 := q.1; have h4 := q.2; omega))
  have F134 := hk129.blk F123 (fun q => by have h1 := q.1; have h2 := q.2; have h3 := F123.lt; omega)
  have F135 : Hid (ZOwn w57.heap.size w67.heap.size w127 (.slice ra75 Q.length rc76) Q) := F125.out.same (Same.of_kps hk129 (by omega) (fun k h1 h2 q => by have h3 := q.1; have h4 := q.2; omega))
  clear hk129 F120 F121 F122 F126 F123 F125
  have F136 : Hid (ZOwn W47.heap.size w57.heap.size w127 (.slice (some ⟨g55, 0, none⟩) lW.length lW.length) (mkz (1 + tot lsS) lW.length)) := hR128
  clear hR128 F124
  have hkp : ¬ ((1 + tot lsS + lW.length : Nat) : Int) < 0 := by omega
  clear F133
  clear F136
  go_wp2_with fail
  refine (eqZ_any _ _ Q hbdQ _ (F135.out.at.wide (by omega)) (F132.out.at.wide (by omega))).mono ?_
  rintro e w137 ⟨rfl, hb138⟩
  have hsw137 : w127.heap.size ≤ w137.heap.size := hb138.size
  have F139 : Hid (Below w.heap.size w w137) := F130.out.trans (hb138.mono F130.out.size)
  have F140 := F131.on hb138 F131.lt
  have F141 : Hid (ZOwn w20.heap.size w28.heap.size w137 (.slice ra34 Q.length rc35) Q) := F132.out.same (Same.of_below hb138 (by omega))
  have F142 := F134.on hb138 F134.lt
  have F143 : Hid (ZOwn w57.heap.size w67.heap.size w137 (.slice ra75 Q.length rc76) Q) := F135.out.same (Same.of_below hb138 (by omega))
  clear hb138 F130 F131 F132 F134 F135
  go_wp2_with fail
  refine (markZo_any _ Q (1) _ _ (by omega) hbdQ _ F143.out).mono ?_
  rintro e w144 ⟨rfl, hR145, hk146⟩
  have hsw144 : w137.heap.size ≤ w144.heap.size := hk146.size
  have F147 : Hid (Below w.heap.size w w144) := hk146.bel F139.out F139.out.size (fun k q => by have h3 := q.1; omega)
  have F148 := hk146.blk F140 (fun q => by have h1 := q.1; have h2 := q.2; have h3 := F140.lt; omega)
  have F149 : Hid (ZOwn w20.heap.size w28.heap.size w144 (.slice ra34 Q.length rc35) Q) := F141.out.same (Same.of_kps hk146 (by omega) (fun k h1 h2 q => by have h3 := q.1; have h4 := q.2; omega))
  have F150 := hk146.blk F142 (fun q => by have h1 := q.1; have h2 := q.2; have h3 := F142.lt; omega)
  clear hk146 F139 F140 F141 F142
  have F151 : Hid (ZOwn w57.heap.size w67.heap.size w144 (.slice ra75 Q.length rc76) (mkz (1) Q.length)) := hR145
  clear hR145 F143
  have hkm : ¬ ((1 + Q.length : Nat) : Int) < 0 := by omega
  go_wp2_with fail
  refine (heldZo_any _ Q.length (1) _ _ (by omega) hbdQ _ F151.out).mono ?_
  rintro e w152 ⟨rfl, hb153⟩
  have hsw152 : w144.heap.size ≤ w152.heap.size := hb153.size
  have F154 : Hid (Below w.heap.size w w152) := F147.out.trans (hb153.mono F147.out.size)
  have F155 := F148.on hb153 F148.lt
  have F156 : Hid (ZOwn w20.heap.size w28.heap.size w152 (.slice ra34 Q.length rc35) Q) := F149.out.same (Same.of_below hb153 (by omega))
  have F157 := F150.on hb153 F150.lt
  have F158 : Hid (ZOwn w57.heap.size w67.heap.size w152 (.slice ra75 Q.length rc76) (mkz (1) Q.length)) := F151.out.same (Same.of_below hb153 (by omega))
  clear hb153 F147 F148 F149 F150 F151
  go_wp2_with (refine load_blk rfl rfl rfl F155 Try.underlying53 infoSl ?_)
  refine (toSystem_any wiS puS _ nS _ hn1S lsS hz1S _ ((HAS.out.on F154.out).wide F154.out.size)).mono ?_
  rintro e w162 ⟨g159, vs161, rfl, hO160, hb163⟩
  unfold sysV
  have hsw162 : w152.heap.size ≤ w162.heap.size := hb163.size
  have F164 : Hid (Below w.heap.size w w162) := F154.out.trans (hb163.mono F154.out.size)
  have F165 := F155.on hb163 F155.lt
  have F166 : Hid (ZOwn w20.heap.size w28.heap.size w162 (.slice ra34 Q.length rc35) Q) := F156.out.same (Same.of_below hb163 (by omega))
  have F167 := F157.on hb163 F157.lt
  have F168 : Hid (ZOwn w57.heap.size w67.heap.size w162 (.slice ra75 Q.length rc76) (mkz (1) Q.length)) := F158.out.same (Same.of_below hb163 (by omega))
  clear hb163 F154 F155 F156 F157 F158
  have F169 : Hid (NOwnV 3 35 w152.heap.size w162.heap.size w162 (.slice (some ⟨g159, 0, none⟩) nS nS) nS vs161 lsS) := hO160
  clear hO160
  go_wp2_with (refine load_blk rfl rfl rfl F165 Try.underlying53 infoSl ?_)
  refine (toZ_any _ lW hn1W _ ((HAW.out.on F164.out).wide F164.out.size)).mono ?_
  rintro e w172 ⟨g170, rfl, hO171, hb173⟩
  have hsw172 : w162.heap.size ≤ w172.heap.size := hb173.size
  have F174 : Hid (Below w.heap.size w w172) := F164.out.trans (hb173.mono F164.out.size)
  have F175 := F165.on hb173 F165.lt
  have F176 : Hid (ZOwn w20.heap.size w28.heap.size w172 (.slice ra34 Q.length rc35) Q) := F166.out.same (Same.of_below hb173 (by omega))
  have F177 := F167.on hb173 F167.lt
  have F178 : Hid (ZOwn w57.heap.size w67.heap.size w172 (.slice ra75 Q.length rc76) (mkz (1) Q.length)) := F168.out.same (Same.of_below hb173 (by omega))
  have F179 : Hid (NOwnV 3 35 w152.heap.size w162.heap.size w172 (.slice (some ⟨g159, 0, none⟩) nS nS) nS vs161 lsS) := F169.out.same (Same.of_below hb173 (by omega))
  clear hb173 F164 F165 F166 F167 F168 F169
  have F180 : Hid (ZOwn w162.heap.size w172.heap.size w172 (.slice (some ⟨g170, 0, none⟩) lW.length lW.length) lW) := hO171
  clear hO171
  go_wp2_with (refine load_blk rfl rfl rfl F175 Try.underlying53 infoSl ?_)
  refine (HQ1.out _ _  _ _ (F179.out.at.wide (by omega)) (F180.out.at.wide (by omega))).mono ?_
  rintro e w183 ⟨v181, rfl, hO182, hb184⟩
  have hsw183 : w172.heap.size ≤ w183.heap.size := hb184.size
  have F185 : Hid (Below w.heap.size w w183) := F174.out.trans (hb184.mono F174.out.size)
  have F186 := F175.on hb184 F175.lt
  have F187 : Hid (ZOwn w20.heap.size w28.heap.size w183 (.slice ra34 Q.length rc35) Q) := F176.out.same (Same.of_below hb184 (by omega))
  have F188 := F177.on hb184 F177.lt
  have F189 : Hid (ZOwn w57.heap.size w67.heap.size w183 (.slice ra75 Q.length rc76) (mkz (1) Q.length)) := F178.out.same (Same.of_below hb184 (by omega))
  have F190 : Hid (NOwnV 3 35 w152.heap.size w162.heap.size w183 (.slice (some ⟨g159, 0, none⟩) nS nS) nS vs161 lsS) := F179.out.same (Same.of_below hb184 (by omega))
  have F191 : Hid (ZOwn w162.heap.size w172.heap.size w183 (.slice (some ⟨g170, 0, none⟩) lW.length lW.length) lW) := F180.out.same (Same.of_below hb184 (by omega))
  clear hb184 F174 F175 F176 F177 F178 F179 F180
  obtain ⟨ra192, rc193, hv194⟩ := row_form hO182.1
  subst hv194
  have F195 : Hid (ZOwn w172.heap.size w183.heap.size w183 (.slice ra192 Q.length rc193) Q) := hO182
  clear hO182
  clear HQ1
  clear F190 F191
  go_wp2_with fail
  refine (eqZ_any _ _ Q hbdQ _ (F195.out.at.wide (by omega)) (F187.out.at.wide (by omega))).mono ?_
  rintro e w196 ⟨rfl, hb197⟩
  have hsw196 : w183.heap.size ≤ w196.heap.size := hb197.size
  have F198 : Hid (Below w.heap.size w w196) := F185.out.trans (hb197.mono F185.out.size)
  have F199 := F186.on hb197 F186.lt
  have F200 : Hid (ZOwn w20.heap.size w28.heap.size w196 (.slice ra34 Q.length rc35) Q) := F187.out.same (Same.of_below hb197 (by omega))
  have F201 := F188.on hb197 F188.lt
  have F202 : Hid (ZOwn w57.heap.size w67.heap.size w196 (.slice ra75 Q.length rc76) (mkz (1) Q.length)) := F189.out.same (Same.of_below hb197 (by omega))
  have F203 : Hid (ZOwn w172.heap.size w183.heap.size w196 (.slice ra192 Q.length rc193) Q) := F195.out.same (Same.of_below hb197 (by omega))
  clear hb197 F185 F186 F187 F188 F189 F195
  go_wp2_with fail
  refine (heldZo_any _ Q.length (1) _ _ (by omega) hbdQ _ F202.out).mono ?_
  rintro e w204 ⟨rfl, hb205⟩
  have hsw204 : w196.heap.size ≤ w204.heap.size := hb205.size
  have F206 : Hid (Below w.heap.size w w204) := F198.out.trans (hb205.mono F198.out.size)
  have F207 := F199.on hb205 F199.lt
  have F208 : Hid (ZOwn w20.heap.size w28.heap.size w204 (.slice ra34 Q.length rc35) Q) := F200.out.same (Same.of_below hb205 (by omega))
  have F209 := F201.on hb205 F201.lt
  have F210 : Hid (ZOwn w57.heap.size w67.heap.size w204 (.slice ra75 Q.length rc76) (mkz (1) Q.length)) := F202.out.same (Same.of_below hb205 (by omega))
  have F211 : Hid (ZOwn w172.heap.size w183.heap.size w204 (.slice ra192 Q.length rc193) Q) := F203.out.same (Same.of_below hb205 (by omega))
  clear hb205 F198 F199 F200 F201 F202 F203
  go_wp2
  go_ret
  exact ⟨rfl, F206.out⟩

end Go.Proofs.Ytjlijflfepffiaa
