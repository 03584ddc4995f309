/-
  The walks of the exact laws of systems of products.
  (-DROP-: what the seat lacks is left out.)
-/
import Derived.Test.YtheadokdmncdoaaExZ
import Derived.Test.YtheadokdmncdoaaRwWit
import Derived.Test.YtheadokdmncdoaaRwSys3
import Derived.Test.YtheadokdmncdoaaRwMark
import Derived.Test.YtheadokdmncdoaaOrd
namespace Go.Proofs.Ytheadokdmncdoaa
open Go.RowKit

theorem zo_of {P : Program} {f : FuncId} {args : Array Value} {w : World} {L : List Int} (h : Calls P f args w fun e w' => ∃ v, e = .returned v ∧ RowZs w.heap.size w' v L ∧ Below w.heap.size w w') : Calls P f args w fun e w' => ∃ v, e = .returned v ∧ ZOwn w.heap.size w'.heap.size w' v L ∧ Below w.heap.size w w' :=
  h.mono fun _ _ ⟨v, h1, h2, h3⟩ => ⟨v, h1, ZOwn.of h2, h3⟩

set_option maxHeartbeats 6400000 in
set_option maxRecDepth 100000 in
theorem lawPublicOf (b : Int) (_hb : (Lit.int .i64 b).wf = true) (w : World) :
    Calls Try.prog 8 #[.int .i64 b] w fun e w' => e = .returned (.bool true) ∧ Below w.heap.size w w' := by
  have HB0 : Hid (Below w.heap.size w w) := Below.refl _ _
  obtain ⟨R, hbd0, hq1, hq2⟩ : ∃ (R : List Int) , (R.length ≤ 1048576) ∧ (∀ w, Calls Try.prog 16 #[.int .i64 b] w fun e w' => ∃ vR, e = .returned (vR) ∧ ZOwn w.heap.size w'.heap.size w' vR R ∧ Below w.heap.size w w') ∧ (∀ w, Calls Try.prog 32 #[.int .i64 b] w fun e w' => ∃ vR, e = .returned (vR) ∧ ZOwn w.heap.size w'.heap.size w' vR R ∧ Below w.heap.size w w') := ⟨_, by simp [pubOf], fun w => (zo_of (iPub_any b w)), fun w => (zo_of (sPub_any b w))⟩
  have HQ1 : Hid _ := hq1
  have HQ2 : Hid _ := hq2
  clear hq1 hq2
  go_enter Try.func8, Try.ntmps8
  go_wp2_with fail
  refine (HQ2.out _ ).mono ?_
  rintro e w3 ⟨v1, rfl, hO2, hb4⟩
  have hsw3 : w.heap.size ≤ w3.heap.size := hb4.size
  have F5 : Hid (Below w.heap.size w w3) := HB0.out.trans (hb4.mono HB0.out.size)
  clear hb4 HB0
  obtain ⟨ra6, rc7, hv8⟩ := row_form hO2.1
  subst hv8
  have F9 : Hid (ZOwn w.heap.size w3.heap.size w3 (.slice ra6 R.length rc7) R) := hO2
  clear hO2
  clear HQ2
  go_wp2_with fail
  refine (HQ1.out _ ).mono ?_
  rintro e w12 ⟨v10, rfl, hO11, hb13⟩
  have hsw12 : w3.heap.size ≤ w12.heap.size := hb13.size
  have F14 : Hid (Below w.heap.size w w12) := F5.out.trans (hb13.mono F5.out.size)
  have F15 : Hid (ZOwn w.heap.size w3.heap.size w12 (.slice ra6 R.length rc7) R) := F9.out.same (Same.of_below hb13 (by omega))
  clear hb13 F5 F9
  obtain ⟨ra16, rc17, hv18⟩ := row_form hO11.1
  subst hv18
  have F19 : Hid (ZOwn w3.heap.size w12.heap.size w12 (.slice ra16 R.length rc17) R) := hO11
  clear hO11
  have hbdR := hbd0
  go_wp2_with fail
  refine (eqZ_any _ _ R hbdR _ (F19.out.at.wide (by omega)) (F15.out.at.wide (by omega))).mono ?_
  rintro e w20 ⟨rfl, hb21⟩
  have hsw20 : w12.heap.size ≤ w20.heap.size := hb21.size
  have F22 : Hid (Below w.heap.size w w20) := F14.out.trans (hb21.mono F14.out.size)
  have F23 : Hid (ZOwn w.heap.size w3.heap.size w20 (.slice ra6 R.length rc7) R) := F15.out.same (Same.of_below hb21 (by omega))
  have F24 : Hid (ZOwn w3.heap.size w12.heap.size w20 (.slice ra16 R.length rc17) R) := F19.out.same (Same.of_below hb21 (by omega))
  clear hb21 F14 F15 F19
  go_wp2_with fail
  refine (markZo_any _ R (1) _ _ (by omega) hbdR _ F24.out).mono ?_
  rintro e w25 ⟨rfl, hR26, hk27⟩
  have hsw25 : w20.heap.size ≤ w25.heap.size := hk27.size
  have F28 : Hid (Below w.heap.size w w25) := hk27.bel F22.out F22.out.size (fun k q => by have h3 := q.1; omega)
  have F29 : Hid (ZOwn w.heap.size w3.heap.size w25 (.slice ra6 R.length rc7) R) := F23.out.same (Same.of_kps hk27 (by omega) (fun k h1 h2 q => by have h3 := q.1; have h4 := q.2; omega))
  clear hk27 F22 F23
  have F30 : Hid (ZOwn w3.heap.size w12.heap.size w25 (.slice ra16 R.length rc17) (mkz (1) R.length)) := hR26
  clear hR26 F24
  have hkm : ¬ ((1 + R.length : Nat) : Int) < 0 := by omega
  go_wp2_with fail
  refine (heldZo_any _ R.length (1) _ _ (by omega) hbdR _ F30.out).mono ?_
  rintro e w31 ⟨rfl, hb32⟩
  have hsw31 : w25.heap.size ≤ w31.heap.size := hb32.size
  have F33 : Hid (Below w.heap.size w w31) := F28.out.trans (hb32.mono F28.out.size)
  have F34 : Hid (ZOwn w.heap.size w3.heap.size w31 (.slice ra6 R.length rc7) R) := F29.out.same (Same.of_below hb32 (by omega))
  have F35 : Hid (ZOwn w3.heap.size w12.heap.size w31 (.slice ra16 R.length rc17) (mkz (1) R.length)) := F30.out.same (Same.of_below hb32 (by omega))
  clear hb32 F28 F29 F30
  go_wp2_with fail
  refine (HQ1.out _ ).mono ?_
  rintro e w38 ⟨v36, rfl, hO37, hb39⟩
  have hsw38 : w31.heap.size ≤ w38.heap.size := hb39.size
  have F40 : Hid (Below w.heap.size w w38) := F33.out.trans (hb39.mono F33.out.size)
  have F41 : Hid (ZOwn w.heap.size w3.heap.size w38 (.slice ra6 R.length rc7) R) := F34.out.same (Same.of_below hb39 (by omega))
  have F42 : Hid (ZOwn w3.heap.size w12.heap.size w38 (.slice ra16 R.length rc17) (mkz (1) R.length)) := F35.out.same (Same.of_below hb39 (by omega))
  clear hb39 F33 F34 F35
  obtain ⟨ra43, rc44, hv45⟩ := row_form hO37.1
  subst hv45
  have F46 : Hid (ZOwn w31.heap.size w38.heap.size w38 (.slice ra43 R.length rc44) R) := hO37
  clear hO37
  clear HQ1
  go_wp2_with fail
  refine (eqZ_any _ _ R hbdR _ (F46.out.at.wide (by omega)) (F41.out.at.wide (by omega))).mono ?_
  rintro e w47 ⟨rfl, hb48⟩
  have hsw47 : w38.heap.size ≤ w47.heap.size := hb48.size
  have F49 : Hid (Below w.heap.size w w47) := F40.out.trans (hb48.mono F40.out.size)
  have F50 : Hid (ZOwn w.heap.size w3.heap.size w47 (.slice ra6 R.length rc7) R) := F41.out.same (Same.of_below hb48 (by omega))
  have F51 : Hid (ZOwn w3.heap.size w12.heap.size w47 (.slice ra16 R.length rc17) (mkz (1) R.length)) := F42.out.same (Same.of_below hb48 (by omega))
  have F52 : Hid (ZOwn w31.heap.size w38.heap.size w47 (.slice ra43 R.length rc44) R) := F46.out.same (Same.of_below hb48 (by omega))
  clear hb48 F40 F41 F42 F46
  go_wp2_with fail
  refine (heldZo_any _ R.length (1) _ _ (by omega) hbdR _ F51.out).mono ?_
  rintro e w53 ⟨rfl, hb54⟩
  have hsw53 : w47.heap.size ≤ w53.heap.size := hb54.size
  have F55 : Hid (Below w.heap.size w w53) := F49.out.trans (hb54.mono F49.out.size)
  have F56 : Hid (ZOwn w.heap.size w3.heap.size w53 (.slice ra6 R.length rc7) R) := F50.out.same (Same.of_below hb54 (by omega))
  have F57 : Hid (ZOwn w3.heap.size w12.heap.size w53 (.slice ra16 R.length rc17) (mkz (1) R.length)) := F51.out.same (Same.of_below hb54 (by omega))
  have F58 : Hid (ZOwn w31.heap.size w38.heap.size w53 (.slice ra43 R.length rc44) R) := F52.out.same (Same.of_below hb54 (by omega))
  clear hb54 F49 F50 F51 F52
  go_wp2
  go_ret
  exact ⟨rfl, F55.out⟩

set_option maxHeartbeats 6400000 in
set_option maxRecDepth 100000 in
theorem lawCountWitness (b : Int) (_hb : (Lit.int .i64 b).wf = true) (w : World) :
    Calls Try.prog 7 #[.int .i64 b] w fun e w' => e = .returned (.bool true) ∧ Below w.heap.size w w' := by
  have HB0 : Hid (Below w.heap.size w w) := Below.refl _ _
  obtain ⟨R, hbd0, hq1, hq2⟩ : ∃ (R : List Int) , (R.length ≤ 1048576) ∧ (∀ w, Calls Try.prog 12 #[.int .i64 b] w fun e w' => ∃ vR, e = .returned (vR) ∧ ZOwn w.heap.size w'.heap.size w' vR R ∧ Below w.heap.size w w') ∧ (∀ w, Calls Try.prog 29 #[.int .i64 b] w fun e w' => ∃ vR, e = .returned (vR) ∧ ZOwn w.heap.size w'.heap.size w' vR R ∧ Below w.heap.size w w') := ⟨_, Nat.le_trans (witOf_length b) (by decide), fun w => (zo_of (iWit_any b w)), fun w => (zo_of (sWit_any b w))⟩
  have HQ1 : Hid _ := hq1
  have HQ2 : Hid _ := hq2
  clear hq1 hq2
  go_enter Try.func7, Try.ntmps7
  go_wp2_with fail
  refine (HQ2.out _ ).mono ?_
  rintro e w3 ⟨v1, rfl, hO2, hb4⟩
  have hsw3 : w.heap.size ≤ w3.heap.size := hb4.size
  have F5 : Hid (Below w.heap.size w w3) := HB0.out.trans (hb4.mono HB0.out.size)
  clear hb4 HB0
  obtain ⟨ra6, rc7, hv8⟩ := row_form hO2.1
  subst hv8
  have F9 : Hid (ZOwn w.heap.size w3.heap.size w3 (.slice ra6 R.length rc7) R) := hO2
  clear hO2
  clear HQ2
  go_wp2_with fail
  refine (HQ1.out _ ).mono ?_
  rintro e w12 ⟨v10, rfl, hO11, hb13⟩
  have hsw12 : w3.heap.size ≤ w12.heap.size := hb13.size
  have F14 : Hid (Below w.heap.size w w12) := F5.out.trans (hb13.mono F5.out.size)
  have F15 : Hid (ZOwn w.heap.size w3.heap.size w12 (.slice ra6 R.length rc7) R) := F9.out.same (Same.of_below hb13 (by omega))
  clear hb13 F5 F9
  obtain ⟨ra16, rc17, hv18⟩ := row_form hO11.1
  subst hv18
  have F19 : Hid (ZOwn w3.heap.size w12.heap.size w12 (.slice ra16 R.length rc17) R) := hO11
  clear hO11
  have hbdR := hbd0
  go_wp2_with fail
  refine (eqZ_any _ _ R hbdR _ (F19.out.at.wide (by omega)) (F15.out.at.wide (by omega))).mono ?_
  rintro e w20 ⟨rfl, hb21⟩
  have hsw20 : w12.heap.size ≤ w20.heap.size := hb21.size
  have F22 : Hid (Below w.heap.size w w20) := F14.out.trans (hb21.mono F14.out.size)
  have F23 : Hid (ZOwn w.heap.size w3.heap.size w20 (.slice ra6 R.length rc7) R) := F15.out.same (Same.of_below hb21 (by omega))
  have F24 : Hid (ZOwn w3.heap.size w12.heap.size w20 (.slice ra16 R.length rc17) R) := F19.out.same (Same.of_below hb21 (by omega))
  clear hb21 F14 F15 F19
  go_wp2_with fail
  refine (markZo_any _ R (1) _ _ (by omega) hbdR _ F24.out).mono ?_
  rintro e w25 ⟨rfl, hR26, hk27⟩
  have hsw25 : w20.heap.size ≤ w25.heap.size := hk27.size
  have F28 : Hid (Below w.heap.size w w25) := hk27.bel F22.out F22.out.size (fun k q => by have h3 := q.1; omega)
  have F29 : Hid (ZOwn w.heap.size w3.heap.size w25 (.slice ra6 R.length rc7) R) := F23.out.same (Same.of_kps hk27 (by omega) (fun k h1 h2 q => by have h3 := q.1; have h4 := q.2; omega))
  clear hk27 F22 F23
  have F30 : Hid (ZOwn w3.heap.size w12.heap.size w25 (.slice ra16 R.length rc17) (mkz (1) R.length)) := hR26
  clear hR26 F24
  have hkm : ¬ ((1 + R.length : Nat) : Int) < 0 := by omega
  go_wp2_with fail
  refine (heldZo_any _ R.length (1) _ _ (by omega) hbdR _ F30.out).mono ?_
  rintro e w31 ⟨rfl, hb32⟩
  have hsw31 : w25.heap.size ≤ w31.heap.size := hb32.size
  have F33 : Hid (Below w.heap.size w w31) := F28.out.trans (hb32.mono F28.out.size)
  have F34 : Hid (ZOwn w.heap.size w3.heap.size w31 (.slice ra6 R.length rc7) R) := F29.out.same (Same.of_below hb32 (by omega))
  have F35 : Hid (ZOwn w3.heap.size w12.heap.size w31 (.slice ra16 R.length rc17) (mkz (1) R.length)) := F30.out.same (Same.of_below hb32 (by omega))
  clear hb32 F28 F29 F30
  go_wp2_with fail
  refine (HQ1.out _ ).mono ?_
  rintro e w38 ⟨v36, rfl, hO37, hb39⟩
  have hsw38 : w31.heap.size ≤ w38.heap.size := hb39.size
  have F40 : Hid (Below w.heap.size w w38) := F33.out.trans (hb39.mono F33.out.size)
  have F41 : Hid (ZOwn w.heap.size w3.heap.size w38 (.slice ra6 R.length rc7) R) := F34.out.same (Same.of_below hb39 (by omega))
  have F42 : Hid (ZOwn w3.heap.size w12.heap.size w38 (.slice ra16 R.length rc17) (mkz (1) R.length)) := F35.out.same (Same.of_below hb39 (by omega))
  clear hb39 F33 F34 F35
  obtain ⟨ra43, rc44, hv45⟩ := row_form hO37.1
  subst hv45
  have F46 : Hid (ZOwn w31.heap.size w38.heap.size w38 (.slice ra43 R.length rc44) R) := hO37
  clear hO37
  clear HQ1
  go_wp2_with fail
  refine (eqZ_any _ _ R hbdR _ (F46.out.at.wide (by omega)) (F41.out.at.wide (by omega))).mono ?_
  rintro e w47 ⟨rfl, hb48⟩
  have hsw47 : w38.heap.size ≤ w47.heap.size := hb48.size
  have F49 : Hid (Below w.heap.size w w47) := F40.out.trans (hb48.mono F40.out.size)
  have F50 : Hid (ZOwn w.heap.size w3.heap.size w47 (.slice ra6 R.length rc7) R) := F41.out.same (Same.of_below hb48 (by omega))
  have F51 : Hid (ZOwn w3.heap.size w12.heap.size w47 (.slice ra16 R.length rc17) (mkz (1) R.length)) := F42.out.same (Same.of_below hb48 (by omega))
  have F52 : Hid (ZOwn w31.heap.size w38.heap.size w47 (.slice ra43 R.length rc44) R) := F46.out.same (Same.of_below hb48 (by omega))
  clear hb48 F40 F41 F42 F46
  go_wp2_with fail
  refine (heldZo_any _ R.length (1) _ _ (by omega) hbdR _ F51.out).mono ?_
  rintro e w53 ⟨rfl, hb54⟩
  have hsw53 : w47.heap.size ≤ w53.heap.size := hb54.size
  have F55 : Hid (Below w.heap.size w w53) := F49.out.trans (hb54.mono F49.out.size)
  have F56 : Hid (ZOwn w.heap.size w3.heap.size w53 (.slice ra6 R.length rc7) R) := F50.out.same (Same.of_below hb54 (by omega))
  have F57 : Hid (ZOwn w3.heap.size w12.heap.size w53 (.slice ra16 R.length rc17) (mkz (1) R.length)) := F51.out.same (Same.of_below hb54 (by omega))
  have F58 : Hid (ZOwn w31.heap.size w38.heap.size w53 (.slice ra43 R.length rc44) R) := F52.out.same (Same.of_below hb54 (by omega))
  clear hb54 F49 F50 F51 F52
  go_wp2
  go_ret
  exact ⟨rfl, F55.out⟩

set_option maxHeartbeats 6400000 in
set_option maxRecDepth 100000 in
theorem lawSystemOk (wiS puS : Int) (aS : Option Addr) (nS cS : Nat) (hwS : (Lit.int .i64 wiS).wf = true) (hnS : nS ≤ 9223372036854775807) (lsS : List (List Int)) (hzS : ∀ j, (lsS.getD j []).length ≤ 9223372036854775807) (w : World) (hAS : NAt 3 w w.heap.size (.slice aS nS cS) nS lsS) :
    Calls Try.prog 4 #[sysV wiS puS (.slice aS nS cS)] w fun e w' => e = .returned (.bool true) ∧ Below w.heap.size w w' := by
  unfold sysV
  have HAS : Hid (NAt 3 w w.heap.size (.slice aS nS cS) nS lsS) := hAS
  clear hAS
  have HB0 : Hid (Below w.heap.size w w) := Below.refl _ _
  have HZS : Hid (szF 1048576 (nS + tot lsS) = -1 ∨ (¬ szF 1048576 (nS + tot lsS) < 0 ∧ nS + tot lsS ≤ 1048576)) := by show _ ∨ _; unfold szF; by_cases h : nS + tot lsS ≤ 1048576 <;> simp [h] <;> omega
  obtain ⟨W1, hE2, hb3, F4⟩ := box1 w 39 #[.int .i64 wiS, .int .i64 puS, .slice aS nS cS]
  have hlW1 : w.heap.size < W1.heap.size := F4.lt
  have hsW1 : w.heap.size ≤ W1.heap.size := hb3.size
  have F5 : Hid (Below w.heap.size w W1) := HB0.out.trans (hb3.mono HB0.out.size)
  clear hb3 HB0
  have HSZ : Hid (Calls Try.prog 21 #[.agg #[.int .i64 wiS, .int .i64 puS, .slice aS nS cS], .int .i64 1048576] W1 fun e w' => e = .returned (.int .i64 (szF 1048576 (nS + tot lsS))) ∧ Below W1.heap.size W1 w') := szSystem_any wiS puS aS nS cS hnS lsS hzS W1 ((HAS.out.on F5.out).wide F5.out.size)
  generalize szF 1048576 (nS + tot lsS) = left at HZS HSZ
  rcases HZS.out with rfl | ⟨hleft, htotS⟩
  · skip
    go_enter Try.func4, Try.ntmps4
    go_wp2_with (refine load_blk rfl rfl rfl F4 Try.underlying39 infoSl ?_)
    clear hE2
    refine HSZ.out.mono ?_
    rintro e wz ⟨rfl, hbz⟩
    have hBz := F5.out.trans (hbz.mono F5.out.size)
    clear hbz HSZ
    go_wp2
    go_ret
    exact ⟨rfl, hBz⟩
  have hn1S : nS ≤ 1048576 := by omega
  have hz1S : ∀ j, (lsS.getD j []).length ≤ 1048576 := fun j => by
    rcases Nat.lt_or_ge j lsS.length with h | h
    · have := tot_at_le lsS h; omega
    · have e : lsS.getD j [] = [] := by simp [h]
      rw [e]; exact Nat.zero_le _
  clear HZS
  obtain ⟨R, hq1, hq2⟩ : ∃ (R : Bool) , (∀ avS cvS w, NAt 3 w w.heap.size (.slice avS nS cvS) nS lsS → Calls Try.prog 13 #[sysV wiS puS (.slice avS nS cvS)] w fun e w' => e = .returned (.bool R) ∧ Below w.heap.size w w') ∧ (∀ avS cvS w, NAt 3 w w.heap.size (.slice avS nS cvS) nS lsS → Calls Try.prog 20 #[sysV wiS puS (.slice avS nS cvS)] w fun e w' => e = .returned (.bool R) ∧ Below w.heap.size w w') := ⟨_, fun avS cvS w hS => (iSysOk_any wiS puS hwS avS nS cvS hnS lsS hzS w hS), fun avS cvS w hS => (sSysOk_any wiS puS hwS avS nS cvS hnS lsS hzS w hS)⟩
  have HQ1 : Hid _ := hq1
  have HQ2 : Hid _ := hq2
  clear hq1 hq2
  unfold sysV at HQ1 HQ2
  go_enter Try.func4, Try.ntmps4
  go_wp2_with (refine load_blk rfl rfl rfl F4 Try.underlying39 infoSl ?_)
  clear hE2
  refine HSZ.out.mono ?_
  rintro e w6 ⟨rfl, hb7⟩
  clear HSZ
  have hsw6 : W1.heap.size ≤ w6.heap.size := hb7.size
  have F8 : Hid (Below w.heap.size w w6) := F5.out.trans (hb7.mono F5.out.size)
  have F9 := F4.on hb7 F4.lt
  clear hb7 F5 F4
  go_wp2_with (refine load_blk rfl rfl rfl F9 Try.underlying39 infoSl ?_)
  refine (toSystem_any wiS puS _ nS _ hn1S lsS hz1S _ ((HAS.out.on F8.out).wide F8.out.size)).mono ?_
  rintro e w13 ⟨g10, vs12, rfl, hO11, hb14⟩
  unfold sysV
  have hsw13 : w6.heap.size ≤ w13.heap.size := hb14.size
  have F15 : Hid (Below w.heap.size w w13) := F8.out.trans (hb14.mono F8.out.size)
  have F16 := F9.on hb14 F9.lt
  clear hb14 F8 F9
  have F17 : Hid (NOwnV 3 61 w6.heap.size w13.heap.size w13 (.slice (some ⟨g10, 0, none⟩) nS nS) nS vs12 lsS) := hO11
  clear hO11
  go_wp2_with (refine load_blk rfl rfl rfl F16 Try.underlying39 infoSl ?_)
  refine (HQ2.out _ _ _ (F17.out.at.wide (by omega))).mono ?_
  rintro e w18 ⟨rfl, hb19⟩
  have hsw18 : w13.heap.size ≤ w18.heap.size := hb19.size
  have F20 : Hid (Below w.heap.size w w18) := F15.out.trans (hb19.mono F15.out.size)
  have F21 := F16.on hb19 F16.lt
  have F22 : Hid (NOwnV 3 61 w6.heap.size w13.heap.size w18 (.slice (some ⟨g10, 0, none⟩) nS nS) nS vs12 lsS) := F17.out.same (Same.of_below hb19 (by omega))
  clear hb19 F15 F16 F17
  clear HQ2
  clear F22
  go_wp2_with (refine load_blk rfl rfl rfl F21 Try.underlying39 infoSl ?_)
  refine (toSystem_any wiS puS _ nS _ hn1S lsS hz1S _ ((HAS.out.on F20.out).wide F20.out.size)).mono ?_
  rintro e w26 ⟨g23, vs25, rfl, hO24, hb27⟩
  unfold sysV
  have hsw26 : w18.heap.size ≤ w26.heap.size := hb27.size
  have F28 : Hid (Below w.heap.size w w26) := F20.out.trans (hb27.mono F20.out.size)
  have F29 := F21.on hb27 F21.lt
  clear hb27 F20 F21
  have F30 : Hid (NOwnV 3 61 w18.heap.size w26.heap.size w26 (.slice (some ⟨g23, 0, none⟩) nS nS) nS vs25 lsS) := hO24
  clear hO24
  obtain ⟨W31, hE32, hb33, F34⟩ := box1 w26 28 #[.int .i64 wiS, .int .i64 puS, .slice (some ⟨g23, 0, none⟩) nS nS]
  have hlW31 : w26.heap.size < W31.heap.size := F34.lt
  have hsW31 : w26.heap.size ≤ W31.heap.size := hb33.size
  have F35 : Hid (Below w.heap.size w W31) := F28.out.trans (hb33.mono F28.out.size)
  have F36 := F29.on hb33 F29.lt
  have F37 : Hid (NOwnV 3 61 w18.heap.size w26.heap.size W31 (.slice (some ⟨g23, 0, none⟩) nS nS) nS vs25 lsS) := F30.out.same (Same.of_below hb33 (by omega))
  clear hb33 F28 F29 F30
  go_wp2_with (first | (refine load_blk rfl rfl rfl F36 Try.underlying39 infoSl ?_) | (refine load_blk rfl rfl rfl F34 Try.underlying28 infoSy ?_))
  refine (HQ1.out _ _ _ (F37.out.at.wide (by omega))).mono ?_
  rintro e w38 ⟨rfl, hb39⟩
  have hsw38 : W31.heap.size ≤ w38.heap.size := hb39.size
  have F40 : Hid (Below w.heap.size w w38) := F35.out.trans (hb39.mono F35.out.size)
  have F41 := F36.on hb39 F36.lt
  have F42 : Hid (NOwnV 3 61 w18.heap.size w26.heap.size w38 (.slice (some ⟨g23, 0, none⟩) nS nS) nS vs25 lsS) := F37.out.same (Same.of_below hb39 (by omega))
  have F43 := F34.on hb39 F34.lt
  clear hb39 F35 F36 F37 F34
  clear hE32
  go_wp2_with fail
  have hD : Below w38.heap.size w38 w38.drew := (Below.refl _ _).drew
  have hAD := (HAS.out.on F40.out.drew).wide F40.out.drew.size
  refine wp_region_ord [(0, false), (1, false), (2, true), (3, true), (4, true)] (fun wz => Below w38.heap.size w38 wz) mixes (by kernel_rfl) hD ?_
  repeat (refine ord_float rfl rfl (fun K hK => ⟨_, (fun w' hw => by have q0 := (F43.on hw F43.lt).cell 0; have q1 :=  (F43.on hw F43.lt).cell 1; have q2 :=  (F43.on hw F43.lt).cell 2; have q3 :=  (F41.on hw F41.lt).cell 0; have q4 :=  (F41.on hw F41.lt).cell 1; have q5 :=  (F41.on hw F41.lt).cell 2; go_simp; exact rfl), ?_⟩); go_simp; refine hK _ ?_; clear hK K)
  refine ord_call rfl rfl (fun K hK => ⟨_, _, (by go_simp <;> first | exact rfl | exact ⟨rfl, rfl⟩), ?_⟩)
  refine (toSystem_any wiS puS _ nS _ hn1S lsS hz1S _ hAD).mono ?_
  rintro e v1 ⟨gz, vsz, rfl, hRz, hbz⟩
  have hBz := below_then hD hbz
  have hPx := ((F42.out.same (Same.of_below hBz (by omega))).at.wide (c := _) (d := v1.heap.size) (by have := hBz.size; omega))
  have hPz := hRz.at
  clear hRz hbz hD hAD
  refine ⟨_, rfl, hBz, ?_⟩
  go_simp
  refine hK _ _ ?_
  clear hK K
  refine ord_call rfl rfl (fun K hK => ⟨_, _, (by go_simp <;> first | exact rfl | exact ⟨rfl, rfl⟩), ?_⟩)
  refine (eqSystem_any wiS puS _ _ nS _ _ hn1S lsS hz1S _ hPx hPz).mono ?_
  rintro e v2 ⟨rfl, hby⟩
  have hBy := below_then hBz hby
  clear hby hBz hPx hPz
  refine ⟨_, rfl, hBy, ?_⟩
  go_simp
  refine hK _ _ ?_
  clear hK K
  refine ord_op rfl rfl (fun K hK => ⟨_, _, (by go_simp <;> first | exact ⟨rfl, rfl⟩ | exact rfl), hBy, ?_⟩)
  go_simp
  refine hK _ _ ?_
  clear hK K
  refine ord_nil ?_
  have hsv2 : w38.heap.size ≤ v2.heap.size := hBy.size
  have F44 : Hid (Below w.heap.size w v2) := F40.out.trans (hBy.mono F40.out.size)
  have F45 := F41.on hBy F41.lt
  have F46 : Hid (NOwnV 3 61 w18.heap.size w26.heap.size v2 (.slice (some ⟨g23, 0, none⟩) nS nS) nS vs25 lsS) := F42.out.same (Same.of_below hBy (by omega))
  have F47 := F43.on hBy F43.lt
  clear hBy F40 F41 F42 F43
  go_wp2
  go_ret
  exact ⟨rfl, F44.out⟩


end Go.Proofs.Ytheadokdmncdoaa
