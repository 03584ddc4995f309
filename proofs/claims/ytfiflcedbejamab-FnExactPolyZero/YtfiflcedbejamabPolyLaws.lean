/-
  The walks of the exact laws of polynomials.
  (-DROP-: what the seat lacks is left out.)
-/
import Derived.Test.YtfiflcedbejamabPolyI
namespace Go.Proofs.Ytfiflcedbejamab
open Go.RowKit

set_option maxHeartbeats 6400000 in
set_option maxRecDepth 100000 in
theorem lawPolyAt (aA : Option Addr) (nA cA : Nat) (X : Int) (hnA : nA ≤ 9223372036854775807) (_hX : (Lit.int .i64 X).wf = true) (fA : Nat → Int) (w : World) (hAA : IntsAt w aA nA w.heap.size fA) :
    Calls Try.prog 3 #[.slice aA nA cA, .int .i64 X] w fun e w' => e = .returned (.bool true) ∧ Below w.heap.size w w' := by
  obtain ⟨lA, hlA⟩ : ∃ l, l = zls fA nA := ⟨_, rfl⟩
  have hllA : Hid (lA.length = nA) := by rw [hlA]; exact zls_length _ _
  have HAA : Hid (ZAt w w.heap.size (.slice aA nA cA) lA) := by rw [hlA]; exact ZAt.of hAA
  clear hlA hAA
  by_cases hbA : 1048576 < nA
  · have hbA' : (1048576 : Int) < (nA : Int) := by omega
    go_enter Try.func3, Try.ntmps3
    go_wp2
    go_ret
    exact ⟨rfl, Below.refl _ _⟩
  have hbA' : ¬ (1048576 : Int) < (nA : Int) := by omega
  have hn1A : lA.length ≤ 1048576 := by have := hllA.out; omega
  have HB0 : Hid (Below w.heap.size w w) := Below.refl _ _
  obtain ⟨R, hq1, hq2⟩ : ∃ (R : Int) , (∀ vA w, ZAt w w.heap.size vA lA → Calls Try.prog 9 #[vA, .int .i64 X] w fun e w' => e = .returned (.int .i64 R) ∧ Below w.heap.size w w') ∧ (∀ vA w, ZAt w w.heap.size vA lA → Calls Try.prog 7 #[vA, .int .i64 X] w fun e w' => e = .returned (.int .i64 R) ∧ Below w.heap.size w w') := ⟨_, fun vA w hA => (iAt_any vA lA X hn1A w hA), fun vA w hA => (sAt_any vA lA X hn1A w hA)⟩
  have HQ1 : Hid _ := hq1
  have HQ2 : Hid _ := hq2
  clear hq1 hq2
  go_enter Try.func3, Try.ntmps3
  go_wp2_with fail
  refine (toZ_any _ lA hn1A _ ((HAA.out.on HB0.out).wide HB0.out.size)).mono ?_
  rintro e w3 ⟨g1, rfl, hO2, hb4⟩
  have hsw3 : w.heap.size ≤ w3.heap.size := hb4.size
  have F5 : Hid (Below w.heap.size w w3) := HB0.out.trans (hb4.mono HB0.out.size)
  clear hb4 HB0
  have F6 : Hid (ZOwn w.heap.size w3.heap.size w3 (.slice (some ⟨g1, 0, none⟩) lA.length lA.length) lA) := hO2
  clear hO2
  go_wp2_with fail
  refine (HQ2.out _ _ (F6.out.at.wide (by omega))).mono ?_
  rintro e w7 ⟨rfl, hb8⟩
  have hsw7 : w3.heap.size ≤ w7.heap.size := hb8.size
  have F9 : Hid (Below w.heap.size w w7) := F5.out.trans (hb8.mono F5.out.size)
  have F10 : Hid (ZOwn w.heap.size w3.heap.size w7 (.slice (some ⟨g1, 0, none⟩) lA.length lA.length) lA) := F6.out.same (Same.of_below hb8 (by omega))
  clear hb8 F5 F6
  clear HQ2
  clear F10
  go_wp2_with fail
  refine (toZ_any _ lA hn1A _ ((HAA.out.on F9.out).wide F9.out.size)).mono ?_
  rintro e w13 ⟨g11, rfl, hO12, hb14⟩
  have hsw13 : w7.heap.size ≤ w13.heap.size := hb14.size
  have F15 : Hid (Below w.heap.size w w13) := F9.out.trans (hb14.mono F9.out.size)
  clear hb14 F9
  have F16 : Hid (ZOwn w7.heap.size w13.heap.size w13 (.slice (some ⟨g11, 0, none⟩) lA.length lA.length) lA) := hO12
  clear hO12
  go_wp2_with fail
  refine (HQ1.out _ _ (F16.out.at.wide (by omega))).mono ?_
  rintro e w17 ⟨rfl, hb18⟩
  have hsw17 : w13.heap.size ≤ w17.heap.size := hb18.size
  have F19 : Hid (Below w.heap.size w w17) := F15.out.trans (hb18.mono F15.out.size)
  have F20 : Hid (ZOwn w7.heap.size w13.heap.size w17 (.slice (some ⟨g11, 0, none⟩) lA.length lA.length) lA) := F16.out.same (Same.of_below hb18 (by omega))
  clear hb18 F15 F16
  go_wp2_with fail
  refine (toZ_any _ lA hn1A _ ((HAA.out.on F19.out).wide F19.out.size)).mono ?_
  rintro e w23 ⟨g21, rfl, hO22, hb24⟩
  have hsw23 : w17.heap.size ≤ w23.heap.size := hb24.size
  have F25 : Hid (Below w.heap.size w w23) := F19.out.trans (hb24.mono F19.out.size)
  have F26 : Hid (ZOwn w7.heap.size w13.heap.size w23 (.slice (some ⟨g11, 0, none⟩) lA.length lA.length) lA) := F20.out.same (Same.of_below hb24 (by omega))
  clear hb24 F19 F20
  have F27 : Hid (ZOwn w17.heap.size w23.heap.size w23 (.slice (some ⟨g21, 0, none⟩) lA.length lA.length) lA) := hO22
  clear hO22
  go_wp2_with fail
  refine (eqZ_any _ _ lA hn1A _ (F26.out.at.wide (by omega)) (F27.out.at.wide (by omega))).mono ?_
  rintro e w28 ⟨rfl, hb29⟩
  have hsw28 : w23.heap.size ≤ w28.heap.size := hb29.size
  have F30 : Hid (Below w.heap.size w w28) := F25.out.trans (hb29.mono F25.out.size)
  have F31 : Hid (ZOwn w7.heap.size w13.heap.size w28 (.slice (some ⟨g11, 0, none⟩) lA.length lA.length) lA) := F26.out.same (Same.of_below hb29 (by omega))
  have F32 : Hid (ZOwn w17.heap.size w23.heap.size w28 (.slice (some ⟨g21, 0, none⟩) lA.length lA.length) lA) := F27.out.same (Same.of_below hb29 (by omega))
  clear hb29 F25 F26 F27
  clear F32
  go_wp2
  go_ret
  exact ⟨rfl, F30.out⟩

set_option maxHeartbeats 6400000 in
set_option maxRecDepth 100000 in
theorem lawPolyThrough (aA : Option Addr) (nA cA : Nat) (hnA : nA ≤ 9223372036854775807) (fA : Nat → Int) (w : World) (hAA : IntsAt w aA nA w.heap.size fA) :
    Calls Try.prog 4 #[.slice aA nA cA] w fun e w' => e = .returned (.bool true) ∧ Below w.heap.size w w' := by
  obtain ⟨lA, hlA⟩ : ∃ l, l = zls fA nA := ⟨_, rfl⟩
  have hllA : Hid (lA.length = nA) := by rw [hlA]; exact zls_length _ _
  have HAA : Hid (ZAt w w.heap.size (.slice aA nA cA) lA) := by rw [hlA]; exact ZAt.of hAA
  clear hlA hAA
  by_cases hbA : 1048576 < nA
  · have hbA' : (1048576 : Int) < (nA : Int) := by omega
    go_enter Try.func4, Try.ntmps4
    go_wp2
    go_ret
    exact ⟨rfl, Below.refl _ _⟩
  have hbA' : ¬ (1048576 : Int) < (nA : Int) := by omega
  have hn1A : lA.length ≤ 1048576 := by have := hllA.out; omega
  have HB0 : Hid (Below w.heap.size w w) := Below.refl _ _
  obtain ⟨R, hbd0, hq1, hq2⟩ : ∃ (R : List Int) , (R.length ≤ 1048576) ∧ (∀ vA w, ZAt w w.heap.size vA lA → Calls Try.prog 12 #[vA] w fun e w' => ∃ vR, e = .returned (vR) ∧ ZOwn w.heap.size w'.heap.size w' vR R ∧ Below w.heap.size w w') ∧ (∀ vA w, ZAt w w.heap.size vA lA → Calls Try.prog 11 #[vA] w fun e w' => ∃ vR, e = .returned (vR) ∧ ZOwn w.heap.size w'.heap.size w' vR R ∧ Below w.heap.size w w') := ⟨_, pThr_len lA, fun vA w hA => (iThr_any vA lA hn1A w hA), fun vA w hA => (sThr_any vA lA hn1A w hA)⟩
  have HQ1 : Hid _ := hq1
  have HQ2 : Hid _ := hq2
  clear hq1 hq2
  go_enter Try.func4, Try.ntmps4
  go_wp2_with fail
  refine (toZ_any _ lA hn1A _ ((HAA.out.on HB0.out).wide HB0.out.size)).mono ?_
  rintro e w3 ⟨g1, rfl, hO2, hb4⟩
  have hsw3 : w.heap.size ≤ w3.heap.size := hb4.size
  have F5 : Hid (Below w.heap.size w w3) := HB0.out.trans (hb4.mono HB0.out.size)
  clear hb4 HB0
  have F6 : Hid (ZOwn w.heap.size w3.heap.size w3 (.slice (some ⟨g1, 0, none⟩) lA.length lA.length) lA) := hO2
  clear hO2
  go_wp2_with fail
  refine (HQ2.out _ _ (F6.out.at.wide (by omega))).mono ?_
  rintro e w9 ⟨v7, rfl, hO8, hb10⟩
  have hsw9 : w3.heap.size ≤ w9.heap.size := hb10.size
  have F11 : Hid (Below w.heap.size w w9) := F5.out.trans (hb10.mono F5.out.size)
  have F12 : Hid (ZOwn w.heap.size w3.heap.size w9 (.slice (some ⟨g1, 0, none⟩) lA.length lA.length) lA) := F6.out.same (Same.of_below hb10 (by omega))
  clear hb10 F5 F6
  obtain ⟨ra13, rc14, hv15⟩ := row_form hO8.1
  subst hv15
  have F16 : Hid (ZOwn w3.heap.size w9.heap.size w9 (.slice ra13 R.length rc14) R) := hO8
  clear hO8
  clear HQ2
  clear F12
  go_wp2_with fail
  refine (toZ_any _ lA hn1A _ ((HAA.out.on F11.out).wide F11.out.size)).mono ?_
  rintro e w19 ⟨g17, rfl, hO18, hb20⟩
  have hsw19 : w9.heap.size ≤ w19.heap.size := hb20.size
  have F21 : Hid (Below w.heap.size w w19) := F11.out.trans (hb20.mono F11.out.size)
  have F22 : Hid (ZOwn w3.heap.size w9.heap.size w19 (.slice ra13 R.length rc14) R) := F16.out.same (Same.of_below hb20 (by omega))
  clear hb20 F11 F16
  have F23 : Hid (ZOwn w9.heap.size w19.heap.size w19 (.slice (some ⟨g17, 0, none⟩) lA.length lA.length) lA) := hO18
  clear hO18
  go_wp2_with fail
  refine (HQ1.out _ _ (F23.out.at.wide (by omega))).mono ?_
  rintro e w26 ⟨v24, rfl, hO25, hb27⟩
  have hsw26 : w19.heap.size ≤ w26.heap.size := hb27.size
  have F28 : Hid (Below w.heap.size w w26) := F21.out.trans (hb27.mono F21.out.size)
  have F29 : Hid (ZOwn w3.heap.size w9.heap.size w26 (.slice ra13 R.length rc14) R) := F22.out.same (Same.of_below hb27 (by omega))
  have F30 : Hid (ZOwn w9.heap.size w19.heap.size w26 (.slice (some ⟨g17, 0, none⟩) lA.length lA.length) lA) := F23.out.same (Same.of_below hb27 (by omega))
  clear hb27 F21 F22 F23
  obtain ⟨ra31, rc32, hv33⟩ := row_form hO25.1
  subst hv33
  have F34 : Hid (ZOwn w19.heap.size w26.heap.size w26 (.slice ra31 R.length rc32) R) := hO25
  clear hO25
  have hbdR := hbd0
  go_wp2_with fail
  refine (eqZ_any _ _ R hbdR _ (F34.out.at.wide (by omega)) (F29.out.at.wide (by omega))).mono ?_
  rintro e w35 ⟨rfl, hb36⟩
  have hsw35 : w26.heap.size ≤ w35.heap.size := hb36.size
  have F37 : Hid (Below w.heap.size w w35) := F28.out.trans (hb36.mono F28.out.size)
  have F38 : Hid (ZOwn w3.heap.size w9.heap.size w35 (.slice ra13 R.length rc14) R) := F29.out.same (Same.of_below hb36 (by omega))
  have F39 : Hid (ZOwn w9.heap.size w19.heap.size w35 (.slice (some ⟨g17, 0, none⟩) lA.length lA.length) lA) := F30.out.same (Same.of_below hb36 (by omega))
  have F40 : Hid (ZOwn w19.heap.size w26.heap.size w35 (.slice ra31 R.length rc32) R) := F34.out.same (Same.of_below hb36 (by omega))
  clear hb36 F28 F29 F30 F34
  go_wp2_with fail
  refine (toZ_any _ lA hn1A _ ((HAA.out.on F37.out).wide F37.out.size)).mono ?_
  rintro e w43 ⟨g41, rfl, hO42, hb44⟩
  have hsw43 : w35.heap.size ≤ w43.heap.size := hb44.size
  have F45 : Hid (Below w.heap.size w w43) := F37.out.trans (hb44.mono F37.out.size)
  have F46 : Hid (ZOwn w3.heap.size w9.heap.size w43 (.slice ra13 R.length rc14) R) := F38.out.same (Same.of_below hb44 (by omega))
  have F47 : Hid (ZOwn w9.heap.size w19.heap.size w43 (.slice (some ⟨g17, 0, none⟩) lA.length lA.length) lA) := F39.out.same (Same.of_below hb44 (by omega))
  have F48 : Hid (ZOwn w19.heap.size w26.heap.size w43 (.slice ra31 R.length rc32) R) := F40.out.same (Same.of_below hb44 (by omega))
  clear hb44 F37 F38 F39 F40
  have F49 : Hid (ZOwn w35.heap.size w43.heap.size w43 (.slice (some ⟨g41, 0, none⟩) lA.length lA.length) lA) := hO42
  clear hO42
  go_wp2_with fail
  refine (eqZ_any _ _ lA hn1A _ (F47.out.at.wide (by omega)) (F49.out.at.wide (by omega))).mono ?_
  rintro e w50 ⟨rfl, hb51⟩
  have hsw50 : w43.heap.size ≤ w50.heap.size := hb51.size
  have F52 : Hid (Below w.heap.size w w50) := F45.out.trans (hb51.mono F45.out.size)
  have F53 : Hid (ZOwn w3.heap.size w9.heap.size w50 (.slice ra13 R.length rc14) R) := F46.out.same (Same.of_below hb51 (by omega))
  have F54 : Hid (ZOwn w9.heap.size w19.heap.size w50 (.slice (some ⟨g17, 0, none⟩) lA.length lA.length) lA) := F47.out.same (Same.of_below hb51 (by omega))
  have F55 : Hid (ZOwn w19.heap.size w26.heap.size w50 (.slice ra31 R.length rc32) R) := F48.out.same (Same.of_below hb51 (by omega))
  have F56 : Hid (ZOwn w35.heap.size w43.heap.size w50 (.slice (some ⟨g41, 0, none⟩) lA.length lA.length) lA) := F49.out.same (Same.of_below hb51 (by omega))
  clear hb51 F45 F46 F47 F48 F49
  clear F56
  go_wp2_with fail
  refine (markZo_any _ lA (1) _ _ (by omega) hn1A _ F54.out).mono ?_
  rintro e w57 ⟨rfl, hR58, hk59⟩
  have hsw57 : w50.heap.size ≤ w57.heap.size := hk59.size
  have F60 : Hid (Below w.heap.size w w57) := hk59.bel F52.out F52.out.size (fun k q => by have h3 := q.1; omega)
  have F61 : Hid (ZOwn w3.heap.size w9.heap.size w57 (.slice ra13 R.length rc14) R) := F53.out.same (Same.of_kps hk59 (by omega) (fun k h1 h2 q => by have h3 := q.1; have h4 := q.2; omega))
  have F62 : Hid (ZOwn w19.heap.size w26.heap.size w57 (.slice ra31 R.length rc32) R) := F55.out.same (Same.of_kps hk59 (by omega) (fun k h1 h2 q => by have h3 := q.1; have h4 := q.2; omega))
  clear hk59 F52 F53 F55
  have F63 : Hid (ZOwn w9.heap.size w19.heap.size w57 (.slice (some ⟨g17, 0, none⟩) lA.length lA.length) (mkz (1) lA.length)) := hR58
  clear hR58 F54
  have hkp : ¬ ((1 + lA.length : Nat) : Int) < 0 := by omega
  clear F63
  go_wp2_with fail
  refine (eqZ_any _ _ R hbdR _ (F62.out.at.wide (by omega)) (F61.out.at.wide (by omega))).mono ?_
  rintro e w64 ⟨rfl, hb65⟩
  have hsw64 : w57.heap.size ≤ w64.heap.size := hb65.size
  have F66 : Hid (Below w.heap.size w w64) := F60.out.trans (hb65.mono F60.out.size)
  have F67 : Hid (ZOwn w3.heap.size w9.heap.size w64 (.slice ra13 R.length rc14) R) := F61.out.same (Same.of_below hb65 (by omega))
  have F68 : Hid (ZOwn w19.heap.size w26.heap.size w64 (.slice ra31 R.length rc32) R) := F62.out.same (Same.of_below hb65 (by omega))
  clear hb65 F60 F61 F62
  go_wp2_with fail
  refine (markZo_any _ R (1) _ _ (by omega) hbdR _ F68.out).mono ?_
  rintro e w69 ⟨rfl, hR70, hk71⟩
  have hsw69 : w64.heap.size ≤ w69.heap.size := hk71.size
  have F72 : Hid (Below w.heap.size w w69) := hk71.bel F66.out F66.out.size (fun k q => by have h3 := q.1; omega)
  have F73 : Hid (ZOwn w3.heap.size w9.heap.size w69 (.slice ra13 R.length rc14) R) := F67.out.same (Same.of_kps hk71 (by omega) (fun k h1 h2 q => by have h3 := q.1; have h4 := q.2; omega))
  clear hk71 F66 F67
  have F74 : Hid (ZOwn w19.heap.size w26.heap.size w69 (.slice ra31 R.length rc32) (mkz (1) R.length)) := hR70
  clear hR70 F68
  have hkm : ¬ ((1 + R.length : Nat) : Int) < 0 := by omega
  go_wp2_with fail
  refine (heldZo_any _ R.length (1) _ _ (by omega) hbdR _ F74.out).mono ?_
  rintro e w75 ⟨rfl, hb76⟩
  have hsw75 : w69.heap.size ≤ w75.heap.size := hb76.size
  have F77 : Hid (Below w.heap.size w w75) := F72.out.trans (hb76.mono F72.out.size)
  have F78 : Hid (ZOwn w3.heap.size w9.heap.size w75 (.slice ra13 R.length rc14) R) := F73.out.same (Same.of_below hb76 (by omega))
  have F79 : Hid (ZOwn w19.heap.size w26.heap.size w75 (.slice ra31 R.length rc32) (mkz (1) R.length)) := F74.out.same (Same.of_below hb76 (by omega))
  clear hb76 F72 F73 F74
  go_wp2_with fail
  refine (toZ_any _ lA hn1A _ ((HAA.out.on F77.out).wide F77.out.size)).mono ?_
  rintro e w82 ⟨g80, rfl, hO81, hb83⟩
  have hsw82 : w75.heap.size ≤ w82.heap.size := hb83.size
  have F84 : Hid (Below w.heap.size w w82) := F77.out.trans (hb83.mono F77.out.size)
  have F85 : Hid (ZOwn w3.heap.size w9.heap.size w82 (.slice ra13 R.length rc14) R) := F78.out.same (Same.of_below hb83 (by omega))
  have F86 : Hid (ZOwn w19.heap.size w26.heap.size w82 (.slice ra31 R.length rc32) (mkz (1) R.length)) := F79.out.same (Same.of_below hb83 (by omega))
  clear hb83 F77 F78 F79
  have F87 : Hid (ZOwn w75.heap.size w82.heap.size w82 (.slice (some ⟨g80, 0, none⟩) lA.length lA.length) lA) := hO81
  clear hO81
  go_wp2_with fail
  refine (HQ1.out _ _ (F87.out.at.wide (by omega))).mono ?_
  rintro e w90 ⟨v88, rfl, hO89, hb91⟩
  have hsw90 : w82.heap.size ≤ w90.heap.size := hb91.size
  have F92 : Hid (Below w.heap.size w w90) := F84.out.trans (hb91.mono F84.out.size)
  have F93 : Hid (ZOwn w3.heap.size w9.heap.size w90 (.slice ra13 R.length rc14) R) := F85.out.same (Same.of_below hb91 (by omega))
  have F94 : Hid (ZOwn w19.heap.size w26.heap.size w90 (.slice ra31 R.length rc32) (mkz (1) R.length)) := F86.out.same (Same.of_below hb91 (by omega))
  have F95 : Hid (ZOwn w75.heap.size w82.heap.size w90 (.slice (some ⟨g80, 0, none⟩) lA.length lA.length) lA) := F87.out.same (Same.of_below hb91 (by omega))
  clear hb91 F84 F85 F86 F87
  obtain ⟨ra96, rc97, hv98⟩ := row_form hO89.1
  subst hv98
  have F99 : Hid (ZOwn w82.heap.size w90.heap.size w90 (.slice ra96 R.length rc97) R) := hO89
  clear hO89
  clear HQ1
  clear F95
  go_wp2_with fail
  refine (eqZ_any _ _ R hbdR _ (F99.out.at.wide (by omega)) (F93.out.at.wide (by omega))).mono ?_
  rintro e w100 ⟨rfl, hb101⟩
  have hsw100 : w90.heap.size ≤ w100.heap.size := hb101.size
  have F102 : Hid (Below w.heap.size w w100) := F92.out.trans (hb101.mono F92.out.size)
  have F103 : Hid (ZOwn w3.heap.size w9.heap.size w100 (.slice ra13 R.length rc14) R) := F93.out.same (Same.of_below hb101 (by omega))
  have F104 : Hid (ZOwn w19.heap.size w26.heap.size w100 (.slice ra31 R.length rc32) (mkz (1) R.length)) := F94.out.same (Same.of_below hb101 (by omega))
  have F105 : Hid (ZOwn w82.heap.size w90.heap.size w100 (.slice ra96 R.length rc97) R) := F99.out.same (Same.of_below hb101 (by omega))
  clear hb101 F92 F93 F94 F99
  go_wp2_with fail
  refine (heldZo_any _ R.length (1) _ _ (by omega) hbdR _ F104.out).mono ?_
  rintro e w106 ⟨rfl, hb107⟩
  have hsw106 : w100.heap.size ≤ w106.heap.size := hb107.size
  have F108 : Hid (Below w.heap.size w w106) := F102.out.trans (hb107.mono F102.out.size)
  have F109 : Hid (ZOwn w3.heap.size w9.heap.size w106 (.slice ra13 R.length rc14) R) := F103.out.same (Same.of_below hb107 (by omega))
  have F110 : Hid (ZOwn w19.heap.size w26.heap.size w106 (.slice ra31 R.length rc32) (mkz (1) R.length)) := F104.out.same (Same.of_below hb107 (by omega))
  have F111 : Hid (ZOwn w82.heap.size w90.heap.size w106 (.slice ra96 R.length rc97) R) := F105.out.same (Same.of_below hb107 (by omega))
  clear hb107 F102 F103 F104 F105
  go_wp2
  go_ret
  exact ⟨rfl, F108.out⟩

set_option maxHeartbeats 6400000 in
set_option maxRecDepth 100000 in
theorem lawPolyZero (N : Int) (_hN : (Lit.int .i64 N).wf = true) (w : World) :
    Calls Try.prog 5 #[.int .i64 N] w fun e w' => e = .returned (.bool true) ∧ Below w.heap.size w w' := by
  have HB0 : Hid (Below w.heap.size w w) := Below.refl _ _
  obtain ⟨R, hbd0, hq1, hq2⟩ : ∃ (R : List Int) , (R.length ≤ 1048576) ∧ (∀ w, Calls Try.prog 16 #[.int .i64 N] w fun e w' => ∃ vR, e = .returned (vR) ∧ ZOwn w.heap.size w'.heap.size w' vR R ∧ Below w.heap.size w w') ∧ (∀ w, Calls Try.prog 15 #[.int .i64 N] w fun e w' => ∃ vR, e = .returned (vR) ∧ ZOwn w.heap.size w'.heap.size w' vR R ∧ Below w.heap.size w w') := ⟨_, pZer_len N, fun w => (iZer_any N w), fun w => (sZer_any N w)⟩
  have HQ1 : Hid _ := hq1
  have HQ2 : Hid _ := hq2
  clear hq1 hq2
  go_enter Try.func5, Try.ntmps5
  go_wp2_with fail
  refine (HQ2.out _ ).mono ?_
  rintro e w3 ⟨v1, rfl, hO2, hb4⟩
  have hsw3 : w.heap.size ≤ w3.heap.size := hb4.size
  have F5 : Hid (Below w.heap.size w w3) := HB0.out.trans (hb4.mono HB0.out.size)
  clear hb4 HB0
  obtain ⟨ra6, rc7, hv8⟩ := row_form hO2.1
  subst hv8
  have F9 : Hid (ZOwn w.heap.size w3.heap.size w3 (.slice ra6 R.length rc7) R) := hO2
  clear hO2
  clear HQ2
  go_wp2_with fail
  refine (HQ1.out _ ).mono ?_
  rintro e w12 ⟨v10, rfl, hO11, hb13⟩
  have hsw12 : w3.heap.size ≤ w12.heap.size := hb13.size
  have F14 : Hid (Below w.heap.size w w12) := F5.out.trans (hb13.mono F5.out.size)
  have F15 : Hid (ZOwn w.heap.size w3.heap.size w12 (.slice ra6 R.length rc7) R) := F9.out.same (Same.of_below hb13 (by omega))
  clear hb13 F5 F9
  obtain ⟨ra16, rc17, hv18⟩ := row_form hO11.1
  subst hv18
  have F19 : Hid (ZOwn w3.heap.size w12.heap.size w12 (.slice ra16 R.length rc17) R) := hO11
  clear hO11
  have hbdR := hbd0
  go_wp2_with fail
  refine (eqZ_any _ _ R hbdR _ (F19.out.at.wide (by omega)) (F15.out.at.wide (by omega))).mono ?_
  rintro e w20 ⟨rfl, hb21⟩
  have hsw20 : w12.heap.size ≤ w20.heap.size := hb21.size
  have F22 : Hid (Below w.heap.size w w20) := F14.out.trans (hb21.mono F14.out.size)
  have F23 : Hid (ZOwn w.heap.size w3.heap.size w20 (.slice ra6 R.length rc7) R) := F15.out.same (Same.of_below hb21 (by omega))
  have F24 : Hid (ZOwn w3.heap.size w12.heap.size w20 (.slice ra16 R.length rc17) R) := F19.out.same (Same.of_below hb21 (by omega))
  clear hb21 F14 F15 F19
  go_wp2_with fail
  refine (markZo_any _ R (1) _ _ (by omega) hbdR _ F24.out).mono ?_
  rintro e w25 ⟨rfl, hR26, hk27⟩
  have hsw25 : w20.heap.size ≤ w25.heap.size := hk27.size
  have F28 : Hid (Below w.heap.size w w25) := hk27.bel F22.out F22.out.size (fun k q => by have h3 := q.1; omega)
  have F29 : Hid (ZOwn w.heap.size w3.heap.size w25 (.slice ra6 R.length rc7) R) := F23.out.same (Same.of_kps hk27 (by omega) (fun k h1 h2 q => by have h3 := q.1; have h4 := q.2; omega))
  clear hk27 F22 F23
  have F30 : Hid (ZOwn w3.heap.size w12.heap.size w25 (.slice ra16 R.length rc17) (mkz (1) R.length)) := hR26
  clear hR26 F24
  have hkm : ¬ ((1 + R.length : Nat) : Int) < 0 := by omega
  go_wp2_with fail
  refine (heldZo_any _ R.length (1) _ _ (by omega) hbdR _ F30.out).mono ?_
  rintro e w31 ⟨rfl, hb32⟩
  have hsw31 : w25.heap.size ≤ w31.heap.size := hb32.size
  have F33 : Hid (Below w.heap.size w w31) := F28.out.trans (hb32.mono F28.out.size)
  have F34 : Hid (ZOwn w.heap.size w3.heap.size w31 (.slice ra6 R.length rc7) R) := F29.out.same (Same.of_below hb32 (by omega))
  have F35 : Hid (ZOwn w3.heap.size w12.heap.size w31 (.slice ra16 R.length rc17) (mkz (1) R.length)) := F30.out.same (Same.of_below hb32 (by omega))
  clear hb32 F28 F29 F30
  go_wp2_with fail
  refine (HQ1.out _ ).mono ?_
  rintro e w38 ⟨v36, rfl, hO37, hb39⟩
  have hsw38 : w31.heap.size ≤ w38.heap.size := hb39.size
  have F40 : Hid (Below w.heap.size w w38) := F33.out.trans (hb39.mono F33.out.size)
  have F41 : Hid (ZOwn w.heap.size w3.heap.size w38 (.slice ra6 R.length rc7) R) := F34.out.same (Same.of_below hb39 (by omega))
  have F42 : Hid (ZOwn w3.heap.size w12.heap.size w38 (.slice ra16 R.length rc17) (mkz (1) R.length)) := F35.out.same (Same.of_below hb39 (by omega))
  clear hb39 F33 F34 F35
  obtain ⟨ra43, rc44, hv45⟩ := row_form hO37.1
  subst hv45
  have F46 : Hid (ZOwn w31.heap.size w38.heap.size w38 (.slice ra43 R.length rc44) R) := hO37
  clear hO37
  clear HQ1
  go_wp2_with fail
  refine (eqZ_any _ _ R hbdR _ (F46.out.at.wide (by omega)) (F41.out.at.wide (by omega))).mono ?_
  rintro e w47 ⟨rfl, hb48⟩
  have hsw47 : w38.heap.size ≤ w47.heap.size := hb48.size
  have F49 : Hid (Below w.heap.size w w47) := F40.out.trans (hb48.mono F40.out.size)
  have F50 : Hid (ZOwn w.heap.size w3.heap.size w47 (.slice ra6 R.length rc7) R) := F41.out.same (Same.of_below hb48 (by omega))
  have F51 : Hid (ZOwn w3.heap.size w12.heap.size w47 (.slice ra16 R.length rc17) (mkz (1) R.length)) := F42.out.same (Same.of_below hb48 (by omega))
  have F52 : Hid (ZOwn w31.heap.size w38.heap.size w47 (.slice ra43 R.length rc44) R) := F46.out.same (Same.of_below hb48 (by omega))
  clear hb48 F40 F41 F42 F46
  go_wp2_with fail
  refine (heldZo_any _ R.length (1) _ _ (by omega) hbdR _ F51.out).mono ?_
  rintro e w53 ⟨rfl, hb54⟩
  have hsw53 : w47.heap.size ≤ w53.heap.size := hb54.size
  have F55 : Hid (Below w.heap.size w w53) := F49.out.trans (hb54.mono F49.out.size)
  have F56 : Hid (ZOwn w.heap.size w3.heap.size w53 (.slice ra6 R.length rc7) R) := F50.out.same (Same.of_below hb54 (by omega))
  have F57 : Hid (ZOwn w3.heap.size w12.heap.size w53 (.slice ra16 R.length rc17) (mkz (1) R.length)) := F51.out.same (Same.of_below hb54 (by omega))
  have F58 : Hid (ZOwn w31.heap.size w38.heap.size w53 (.slice ra43 R.length rc44) R) := F52.out.same (Same.of_below hb54 (by omega))
  clear hb54 F49 F50 F51 F52
  go_wp2
  go_ret
  exact ⟨rfl, F55.out⟩


end Go.Proofs.Ytfiflcedbejamab
