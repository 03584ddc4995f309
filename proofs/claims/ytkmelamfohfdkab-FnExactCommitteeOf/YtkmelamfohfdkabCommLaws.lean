/-
  The walks of the exact laws of committees that start no goroutine.
  (-DROP-: what the seat lacks is left out.)
-/
import Derived.Test.YtkmelamfohfdkabCommRow
import Derived.Test.YtkmelamfohfdkabCommI
import Derived.Test.YtkmelamfohfdkabMarkZ
namespace Go.Proofs.Ytkmelamfohfdkab
open Go.RowKit

set_option maxHeartbeats 1600000 in
set_option maxRecDepth 100000 in
theorem lawSecretsOf (s : Int) (_hs : (Lit.int .i64 s).wf = true) (w : World) :
    Calls Try.prog 5 #[.int .i64 s] w fun e w' => e = .returned (.bool true) ∧ Below w.heap.size w w' := by
  obtain ⟨L, hl, hq1, hq2⟩ : ∃ (L : List Int), L.length ≤ 1048576 ∧ (∀ w, Calls Try.prog 19 #[.int .i64 s] w fun e w' => ∃ v, e = .returned (v) ∧ RowZs w.heap.size w' v L ∧ Below w.heap.size w w') ∧ (∀ w, Calls Try.prog 18 #[.int .i64 s] w fun e w' => ∃ v, e = .returned (v) ∧ RowZs w.heap.size w' v L ∧ Below w.heap.size w w') := ⟨_, (by simp [secs]), iSecs_any s, sSecs_any s⟩
  have HQ1 : Hid _ := hq1
  have HQ2 : Hid _ := hq2
  clear hq1 hq2
  go_enter Try.func5, Try.ntmps5
  have HB0 : Hid (Below w.heap.size w w) := Below.refl _ _
  go_wp2_with fail
  refine (HQ2.out _).mono ?_
  rintro e w3 ⟨v1, rfl, hR2, hb4⟩
  have hsw3 : w.heap.size ≤ w3.heap.size := hb4.size
  have F5 : Hid (Below w.heap.size w w3) := HB0.out.trans (hb4.mono HB0.out.size)
  clear hb4 HB0
  obtain ⟨ra6, rc7, hv8⟩ := row_form hR2
  subst hv8
  have R9 : Hid (∀ k, (Value.slice ra6 L.length rc7).ownBlock = some k → w.heap.size ≤ k ∧ k < w3.heap.size) := fun k hk => hR2.lt k hk
  have F10 : Hid (RowZs w.heap.size w3 (.slice ra6 L.length rc7) L) := hR2
  clear hR2
  go_wp2_with fail
  refine (HQ1.out _).mono ?_
  rintro e w13 ⟨v11, rfl, hR12, hb14⟩
  have hsw13 : w3.heap.size ≤ w13.heap.size := hb14.size
  have F15 : Hid (Below w.heap.size w w13) := F5.out.trans (hb14.mono F5.out.size)
  have F16 : Hid (RowZs w.heap.size w13 (.slice ra6 L.length rc7) L) := owns_on F10.out hb14
  clear hb14 F5 F10
  obtain ⟨ra17, rc18, hv19⟩ := row_form hR12
  subst hv19
  have R20 : Hid (∀ k, (Value.slice ra17 L.length rc18).ownBlock = some k → w3.heap.size ≤ k ∧ k < w13.heap.size) := fun k hk => hR12.lt k hk
  have F21 : Hid (RowZs w3.heap.size w13 (.slice ra17 L.length rc18) L) := hR12
  clear hR12
  clear HQ2
  go_wp2_with fail
  refine (eqRowZ_any F21.out F16.out hl).mono ?_
  rintro e w22 ⟨rfl, hb23⟩
  have hsw22 : w13.heap.size ≤ w22.heap.size := hb23.size
  have F24 : Hid (Below w.heap.size w w22) := F15.out.trans (hb23.mono F15.out.size)
  have F25 : Hid (RowZs w.heap.size w22 (.slice ra6 L.length rc7) L) := owns_on F16.out hb23
  have F26 : Hid (RowZs w3.heap.size w22 (.slice ra17 L.length rc18) L) := owns_on F21.out hb23
  clear hb23 F15 F16 F21
  go_wp2_with fail
  refine (markZ_any _ L 1 _ (by decide) hl _ F26.out).mono ?_
  rintro e w27 ⟨rfl, hR28, hk29⟩
  have hsw27 : w22.heap.size ≤ w27.heap.size := hk29.size
  have F30 : Hid (Below w.heap.size w w27) := hk29.bel F24.out F24.out.size (fun k q => by have h1 := R20.out _ q; omega)
  have F31 : Hid (RowZs w.heap.size w27 (.slice ra6 L.length rc7) L) := hk29.row F25.out (fun k hk q => by have h1 := R20.out _ q; have h2 := R9.out _ hk; omega)
  clear hk29 F24 F25
  have F32 : Hid (RowZs w3.heap.size w27 (.slice ra17 L.length rc18) (mkz 1 L.length)) := hR28
  clear hR28 F26
  have hk2 : ¬ ((1 + L.length : Nat) : Int) < 0 := by omega
  go_wp2_with fail
  refine (heldZ_any _ L.length 1 _ (by decide) hl _ F32.out).mono ?_
  rintro e wz ⟨rfl, rfl⟩
  go_wp2_with fail
  refine (HQ1.out _).mono ?_
  rintro e w35 ⟨v33, rfl, hR34, hb36⟩
  have hsw35 : w27.heap.size ≤ w35.heap.size := hb36.size
  have F37 : Hid (Below w.heap.size w w35) := F30.out.trans (hb36.mono F30.out.size)
  have F38 : Hid (RowZs w.heap.size w35 (.slice ra6 L.length rc7) L) := owns_on F31.out hb36
  have F39 : Hid (RowZs w3.heap.size w35 (.slice ra17 L.length rc18) (mkz 1 L.length)) := owns_on F32.out hb36
  clear hb36 F30 F31 F32
  obtain ⟨ra40, rc41, hv42⟩ := row_form hR34
  subst hv42
  have R43 : Hid (∀ k, (Value.slice ra40 L.length rc41).ownBlock = some k → w27.heap.size ≤ k ∧ k < w35.heap.size) := fun k hk => hR34.lt k hk
  have F44 : Hid (RowZs w27.heap.size w35 (.slice ra40 L.length rc41) L) := hR34
  clear hR34
  clear HQ1
  go_wp2_with fail
  refine (eqRowZ_any F44.out F38.out hl).mono ?_
  rintro e w45 ⟨rfl, hb46⟩
  have hsw45 : w35.heap.size ≤ w45.heap.size := hb46.size
  have F47 : Hid (Below w.heap.size w w45) := F37.out.trans (hb46.mono F37.out.size)
  have F48 : Hid (RowZs w.heap.size w45 (.slice ra6 L.length rc7) L) := owns_on F38.out hb46
  have F49 : Hid (RowZs w3.heap.size w45 (.slice ra17 L.length rc18) (mkz 1 L.length)) := owns_on F39.out hb46
  have F50 : Hid (RowZs w27.heap.size w45 (.slice ra40 L.length rc41) L) := owns_on F44.out hb46
  clear hb46 F37 F38 F39 F44
  go_wp2_with fail
  refine (heldZ_any _ L.length 1 _ (by decide) hl _ F49.out).mono ?_
  rintro e wz ⟨rfl, rfl⟩
  go_wp2
  go_ret
  exact ⟨rfl, F47.out⟩

set_option maxHeartbeats 1600000 in
set_option maxRecDepth 100000 in
theorem lawCommitteeOf (s : Int) (_hs : (Lit.int .i64 s).wf = true) (w : World) :
    Calls Try.prog 6 #[.int .i64 s] w fun e w' => e = .returned (.bool true) ∧ Below w.heap.size w w' := by
  obtain ⟨L, hl, hq1, hq2⟩ : ∃ (L : List Pt), L.length ≤ 1048576 ∧ (∀ w, Calls Try.prog 24 #[.int .i64 s] w fun e w' => ∃ v, e = .returned (.agg #[v]) ∧ RowP w.heap.size w' v L ∧ Below w.heap.size w w') ∧ (∀ w, Calls Try.prog 23 #[.int .i64 s] w fun e w' => ∃ v, e = .returned (.agg #[v]) ∧ RowP w.heap.size w' v L ∧ Below w.heap.size w w') := ⟨_, (by rw [keysT_len]; decide), iCommOf_any s, sCommOf_any s⟩
  have HQ1 : Hid _ := hq1
  have HQ2 : Hid _ := hq2
  clear hq1 hq2
  go_enter Try.func6, Try.ntmps6
  have HB0 : Hid (Below w.heap.size w w) := Below.refl _ _
  go_wp2_with fail
  refine (HQ2.out _).mono ?_
  rintro e w3 ⟨v1, rfl, hR2, hb4⟩
  have hsw3 : w.heap.size ≤ w3.heap.size := hb4.size
  have F5 : Hid (Below w.heap.size w w3) := HB0.out.trans (hb4.mono HB0.out.size)
  clear hb4 HB0
  obtain ⟨ra6, rc7, hv8⟩ := row_form hR2
  subst hv8
  have R9 : Hid (∀ k, (Value.slice ra6 L.length rc7).ownBlock = some k → w.heap.size ≤ k ∧ k < w3.heap.size) := fun k hk => hR2.lt k hk
  have F10 : Hid (RowP w.heap.size w3 (.slice ra6 L.length rc7) L) := hR2
  clear hR2
  obtain ⟨W11, hE12, hb13, F14⟩ := box1 w3 31 #[.slice ra6 L.length rc7]
  have hlW11 : w3.heap.size < W11.heap.size := F14.lt
  have hsW11 : w3.heap.size ≤ W11.heap.size := hb13.size
  have F15 : Hid (Below w.heap.size w W11) := F5.out.trans (hb13.mono F5.out.size)
  have F16 : Hid (RowP w.heap.size W11 (.slice ra6 L.length rc7) L) := owns_on F10.out hb13
  clear hb13 F5 F10
  go_wp2_with fail
  refine (HQ1.out _).mono ?_
  rintro e w19 ⟨v17, rfl, hR18, hb20⟩
  have hsw19 : W11.heap.size ≤ w19.heap.size := hb20.size
  have F21 : Hid (Below w.heap.size w w19) := F15.out.trans (hb20.mono F15.out.size)
  have F22 : Hid (RowP w.heap.size w19 (.slice ra6 L.length rc7) L) := owns_on F16.out hb20
  have F23 := F14.on hb20 F14.lt
  clear hb20 F15 F16 F14
  obtain ⟨ra24, rc25, hv26⟩ := row_form hR18
  subst hv26
  have R27 : Hid (∀ k, (Value.slice ra24 L.length rc25).ownBlock = some k → W11.heap.size ≤ k ∧ k < w19.heap.size) := fun k hk => hR18.lt k hk
  have F28 : Hid (RowP W11.heap.size w19 (.slice ra24 L.length rc25) L) := hR18
  clear hR18
  clear hE12
  obtain ⟨W29, hE30, hb31, F32⟩ := box1 w19 31 #[.slice ra24 L.length rc25]
  have hlW29 : w19.heap.size < W29.heap.size := F32.lt
  have hsW29 : w19.heap.size ≤ W29.heap.size := hb31.size
  have F33 : Hid (Below w.heap.size w W29) := F21.out.trans (hb31.mono F21.out.size)
  have F34 : Hid (RowP w.heap.size W29 (.slice ra6 L.length rc7) L) := owns_on F22.out hb31
  have F35 := F23.on hb31 F23.lt
  have F36 : Hid (RowP W11.heap.size W29 (.slice ra24 L.length rc25) L) := owns_on F28.out hb31
  clear hb31 F21 F22 F23 F28
  clear HQ2
  go_wp2_with (first | (refine load_blk rfl rfl rfl F32 Try.underlying31 infoCm ?_) | (refine load_blk rfl rfl rfl F35 Try.underlying31 infoCm ?_))
  refine (eqRowC_any F36.out F34.out hl).mono ?_
  rintro e w37 ⟨rfl, hb38⟩
  have hsw37 : W29.heap.size ≤ w37.heap.size := hb38.size
  have F39 : Hid (Below w.heap.size w w37) := F33.out.trans (hb38.mono F33.out.size)
  have F40 : Hid (RowP w.heap.size w37 (.slice ra6 L.length rc7) L) := owns_on F34.out hb38
  have F41 := F35.on hb38 F35.lt
  have F42 : Hid (RowP W11.heap.size w37 (.slice ra24 L.length rc25) L) := owns_on F36.out hb38
  have F43 := F32.on hb38 F32.lt
  clear hb38 F33 F34 F35 F36 F32
  clear hE30
  go_wp2_with (first | (refine load_blk rfl rfl rfl F43 Try.underlying31 infoCm ?_))
  refine (markComm_any _ _ _ L 1 _ (by decide) hl _ F42.out).mono ?_
  rintro e w44 ⟨rfl, hR45, hk46⟩
  have hsw44 : w37.heap.size ≤ w44.heap.size := hk46.size
  have F47 : Hid (Below w.heap.size w w44) := hk46.bel F39.out F39.out.size (fun k q => by have h1 := R27.out _ q; omega)
  have F48 : Hid (RowP w.heap.size w44 (.slice ra6 L.length rc7) L) := hk46.row F40.out (fun k hk q => by have h1 := R27.out _ q; have h2 := R9.out _ hk; omega)
  have F49 := hk46.blk F41 (fun q => by have h1 := R27.out _ q; have h2 := F41.lt; omega)
  have F50 := hk46.blk F43 (fun q => by have h1 := R27.out _ q; have h2 := F43.lt; omega)
  clear hk46 F39 F40 F41 F43
  have F51 : Hid (RowP W11.heap.size w44 (.slice ra24 L.length rc25) (mkps 1 L.length)) := hR45
  clear hR45 F42
  have hk2 : ¬ ((1 + 3 * L.length : Nat) : Int) < 0 := by omega
  go_wp2_with (first | (refine load_blk rfl rfl rfl F50 Try.underlying31 infoCm ?_))
  refine (heldComm_any _ _ _ L.length 1 _ (by decide) hl _ F51.out).mono ?_
  rintro e w52 ⟨rfl, hb53⟩
  have hsw52 : w44.heap.size ≤ w52.heap.size := hb53.size
  have F54 : Hid (Below w.heap.size w w52) := F47.out.trans (hb53.mono F47.out.size)
  have F55 : Hid (RowP w.heap.size w52 (.slice ra6 L.length rc7) L) := owns_on F48.out hb53
  have F56 := F49.on hb53 F49.lt
  have F57 : Hid (RowP W11.heap.size w52 (.slice ra24 L.length rc25) (mkps 1 L.length)) := owns_on F51.out hb53
  have F58 := F50.on hb53 F50.lt
  clear hb53 F47 F48 F49 F51 F50
  go_wp2_with fail
  refine (HQ1.out _).mono ?_
  rintro e w61 ⟨v59, rfl, hR60, hb62⟩
  have hsw61 : w52.heap.size ≤ w61.heap.size := hb62.size
  have F63 : Hid (Below w.heap.size w w61) := F54.out.trans (hb62.mono F54.out.size)
  have F64 : Hid (RowP w.heap.size w61 (.slice ra6 L.length rc7) L) := owns_on F55.out hb62
  have F65 := F56.on hb62 F56.lt
  have F66 : Hid (RowP W11.heap.size w61 (.slice ra24 L.length rc25) (mkps 1 L.length)) := owns_on F57.out hb62
  have F67 := F58.on hb62 F58.lt
  clear hb62 F54 F55 F56 F57 F58
  obtain ⟨ra68, rc69, hv70⟩ := row_form hR60
  subst hv70
  have R71 : Hid (∀ k, (Value.slice ra68 L.length rc69).ownBlock = some k → w52.heap.size ≤ k ∧ k < w61.heap.size) := fun k hk => hR60.lt k hk
  have F72 : Hid (RowP w52.heap.size w61 (.slice ra68 L.length rc69) L) := hR60
  clear hR60
  obtain ⟨W73, hE74, hb75, F76⟩ := box1 w61 31 #[.slice ra68 L.length rc69]
  have hlW73 : w61.heap.size < W73.heap.size := F76.lt
  have hsW73 : w61.heap.size ≤ W73.heap.size := hb75.size
  have F77 : Hid (Below w.heap.size w W73) := F63.out.trans (hb75.mono F63.out.size)
  have F78 : Hid (RowP w.heap.size W73 (.slice ra6 L.length rc7) L) := owns_on F64.out hb75
  have F79 := F65.on hb75 F65.lt
  have F80 : Hid (RowP W11.heap.size W73 (.slice ra24 L.length rc25) (mkps 1 L.length)) := owns_on F66.out hb75
  have F81 := F67.on hb75 F67.lt
  have F82 : Hid (RowP w52.heap.size W73 (.slice ra68 L.length rc69) L) := owns_on F72.out hb75
  clear hb75 F63 F64 F65 F66 F67 F72
  clear HQ1
  go_wp2_with (first | (refine load_blk rfl rfl rfl F76 Try.underlying31 infoCm ?_) | (refine load_blk rfl rfl rfl F79 Try.underlying31 infoCm ?_))
  refine (eqRowC_any F82.out F78.out hl).mono ?_
  rintro e w83 ⟨rfl, hb84⟩
  have hsw83 : W73.heap.size ≤ w83.heap.size := hb84.size
  have F85 : Hid (Below w.heap.size w w83) := F77.out.trans (hb84.mono F77.out.size)
  have F86 : Hid (RowP w.heap.size w83 (.slice ra6 L.length rc7) L) := owns_on F78.out hb84
  have F87 := F79.on hb84 F79.lt
  have F88 : Hid (RowP W11.heap.size w83 (.slice ra24 L.length rc25) (mkps 1 L.length)) := owns_on F80.out hb84
  have F89 := F81.on hb84 F81.lt
  have F90 : Hid (RowP w52.heap.size w83 (.slice ra68 L.length rc69) L) := owns_on F82.out hb84
  have F91 := F76.on hb84 F76.lt
  clear hb84 F77 F78 F79 F80 F81 F82 F76
  clear hE74
  go_wp2_with (first | (refine load_blk rfl rfl rfl F89 Try.underlying31 infoCm ?_))
  refine (heldComm_any _ _ _ L.length 1 _ (by decide) hl _ F88.out).mono ?_
  rintro e w92 ⟨rfl, hb93⟩
  have hsw92 : w83.heap.size ≤ w92.heap.size := hb93.size
  have F94 : Hid (Below w.heap.size w w92) := F85.out.trans (hb93.mono F85.out.size)
  have F95 : Hid (RowP w.heap.size w92 (.slice ra6 L.length rc7) L) := owns_on F86.out hb93
  have F96 := F87.on hb93 F87.lt
  have F97 : Hid (RowP W11.heap.size w92 (.slice ra24 L.length rc25) (mkps 1 L.length)) := owns_on F88.out hb93
  have F98 := F89.on hb93 F89.lt
  have F99 : Hid (RowP w52.heap.size w92 (.slice ra68 L.length rc69) L) := owns_on F90.out hb93
  have F100 := F91.on hb93 F91.lt
  clear hb93 F85 F86 F87 F88 F89 F90 F91
  go_wp2
  go_ret
  exact ⟨rfl, F94.out⟩

set_option maxRecDepth 100000 in
theorem lawCountBits (b : Int) (_hb : (Lit.int .i64 b).wf = true) (w : World) :
    Calls Try.prog 3 #[.int .i64 b] w fun e w' => e = .returned (.bool true) ∧ Below w.heap.size w w' := by
  have HS : Hid (∀ w, Calls Try.prog 7 #[.int .i64 b] w fun e w' => e = .returned (.int .i64 (bitsB b)) ∧ w = w') := sCount_any b
  have HI : Hid (∀ w, Calls Try.prog 8 #[.int .i64 b] w fun e w' => e = .returned (.int .i64 (bitsB b)) ∧ Below w.heap.size w w') := iCount_any b
  generalize bitsB b = v at HS HI
  go_enter Try.func3, Try.ntmps3
  go_wp2_with fail
  refine (HS.out _).mono ?_
  rintro e w1 ⟨rfl, rfl⟩
  go_wp2_with fail
  refine (HI.out _).mono ?_
  rintro e w1 ⟨rfl, hb⟩
  go_wp2
  go_ret
  exact ⟨rfl, hb⟩

end Go.Proofs.Ytkmelamfohfdkab
