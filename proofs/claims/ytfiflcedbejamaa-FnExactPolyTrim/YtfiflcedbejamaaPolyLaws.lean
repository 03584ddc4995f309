/-
  The walks of the exact laws of polynomials.
  (-DROP-: what the seat lacks is left out.)
-/
import Derived.Test.YtfiflcedbejamaaPolyI
namespace Go.Proofs.Ytfiflcedbejamaa
open Go.RowKit

set_option maxHeartbeats 6400000 in
set_option maxRecDepth 100000 in
theorem lawPolyTrim (aA : Option Addr) (nA cA : Nat) (hnA : nA ≤ 9223372036854775807) (fA : Nat → Int) (w : World) (hAA : IntsAt w aA nA w.heap.size fA) :
    Calls Try.prog 6 #[.slice aA nA cA] w fun e w' => e = .returned (.bool true) ∧ Below w.heap.size w w' := by
  obtain ⟨lA, hlA⟩ : ∃ l, l = zls fA nA := ⟨_, rfl⟩
  have hllA : Hid (lA.length = nA) := by rw [hlA]; exact zls_length _ _
  have HAA : Hid (ZAt w w.heap.size (.slice aA nA cA) lA) := by rw [hlA]; exact ZAt.of hAA
  clear hlA hAA
  by_cases hbA : 1048576 < nA
  · have hbA' : (1048576 : Int) < (nA : Int) := by omega
    go_enter Try.func6, Try.ntmps6
    go_wp2
    go_ret
    exact ⟨rfl, Below.refl _ _⟩
  have hbA' : ¬ (1048576 : Int) < (nA : Int) := by omega
  have hn1A : lA.length ≤ 1048576 := by have := hllA.out; omega
  have HB0 : Hid (Below w.heap.size w w) := Below.refl _ _
  obtain ⟨R, hbd0, hq1, hq2⟩ : ∃ (R : List Int) , (R.length ≤ 1048576) ∧ (∀ vA w, ZAt w w.heap.size vA lA → Calls Try.prog 34 #[vA] w fun e w' => ∃ vR, e = .returned (vR) ∧ ZOwn w.heap.size w'.heap.size w' vR R ∧ Below w.heap.size w w') ∧ (∀ vA w, ZAt w w.heap.size vA lA → Calls Try.prog 35 #[vA] w fun e w' => ∃ vR, e = .returned (vR) ∧ ZOwn w.heap.size w'.heap.size w' vR R ∧ Below w.heap.size w w') := ⟨_, Nat.le_trans (pTrim_len lA) hn1A, fun vA w hA => (iTrim_any vA lA hn1A w hA), fun vA w hA => (sTrim_any vA lA hn1A w hA)⟩
  have HQ1 : Hid _ := hq1
  have HQ2 : Hid _ := hq2
  clear hq1 hq2
  go_enter Try.func6, Try.ntmps6
  go_wp2_with fail
  refine (toZ_any _ lA hn1A _ ((HAA.out.on HB0.out).wide HB0.out.size)).mono ?_
  rintro e w3 ⟨g1, rfl, hO2, hb4⟩
  have hsw3 : w.heap.size ≤ w3.heap.size := hb4.size
  have F5 : Hid (Below w.heap.size w w3) := HB0.out.trans (hb4.mono HB0.out.size)
  clear hb4 HB0
  have F6 : Hid (ZOwn w.heap.size w3.heap.size w3 (.slice (some ⟨g1, 0, none⟩) lA.length lA.length) lA) := hO2
  clear hO2
  go_wp2_with fail
  refine (HQ2.out _ _ (F6.out.at.wide (by omega))).mono ?_
  rintro e w9 ⟨v7, rfl, hO8, hb10⟩
  have hsw9 : w3.heap.size ≤ w9.heap.size := hb10.size
  have F11 : Hid (Below w.heap.size w w9) := F5.out.trans (hb10.mono F5.out.size)
  have F12 : Hid (ZOwn w.heap.size w3.heap.size w9 (.slice (some ⟨g1, 0, none⟩) lA.length lA.length) lA) := F6.out.same (Same.of_below hb10 (by omega))
  clear hb10 F5 F6
  obtain ⟨ra13, rc14, hv15⟩ := row_form hO8.1
  subst hv15
  have F16 : Hid (ZOwn w3.heap.size w9.heap.size w9 (.slice ra13 R.length rc14) R) := hO8
  clear hO8
  clear HQ2
  clear F12
  go_wp2_with fail
  refine (toZ_any _ lA hn1A _ ((HAA.out.on F11.out).wide F11.out.size)).mono ?_
  rintro e w19 ⟨g17, rfl, hO18, hb20⟩
  have hsw19 : w9.heap.size ≤ w19.heap.size := hb20.size
  have F21 : Hid (Below w.heap.size w w19) := F11.out.trans (hb20.mono F11.out.size)
  have F22 : Hid (ZOwn w3.heap.size w9.heap.size w19 (.slice ra13 R.length rc14) R) := F16.out.same (Same.of_below hb20 (by omega))
  clear hb20 F11 F16
  have F23 : Hid (ZOwn w9.heap.size w19.heap.size w19 (.slice (some ⟨g17, 0, none⟩) lA.length lA.length) lA) := hO18
  clear hO18
  go_wp2_with fail
  refine (HQ1.out _ _ (F23.out.at.wide (by omega))).mono ?_
  rintro e w26 ⟨v24, rfl, hO25, hb27⟩
  have hsw26 : w19.heap.size ≤ w26.heap.size := hb27.size
  have F28 : Hid (Below w.heap.size w w26) := F21.out.trans (hb27.mono F21.out.size)
  have F29 : Hid (ZOwn w3.heap.size w9.heap.size w26 (.slice ra13 R.length rc14) R) := F22.out.same (Same.of_below hb27 (by omega))
  have F30 : Hid (ZOwn w9.heap.size w19.heap.size w26 (.slice (some ⟨g17, 0, none⟩) lA.length lA.length) lA) := F23.out.same (Same.of_below hb27 (by omega))
  clear hb27 F21 F22 F23
  obtain ⟨ra31, rc32, hv33⟩ := row_form hO25.1
  subst hv33
  have F34 : Hid (ZOwn w19.heap.size w26.heap.size w26 (.slice ra31 R.length rc32) R) := hO25
  clear hO25
  have hbdR := hbd0
  go_wp2_with fail
  refine (eqZ_any _ _ R hbdR _ (F34.out.at.wide (by omega)) (F29.out.at.wide (by omega))).mono ?_
  rintro e w35 ⟨rfl, hb36⟩
  have hsw35 : w26.heap.size ≤ w35.heap.size := hb36.size
  have F37 : Hid (Below w.heap.size w w35) := F28.out.trans (hb36.mono F28.out.size)
  have F38 : Hid (ZOwn w3.heap.size w9.heap.size w35 (.slice ra13 R.length rc14) R) := F29.out.same (Same.of_below hb36 (by omega))
  have F39 : Hid (ZOwn w9.heap.size w19.heap.size w35 (.slice (some ⟨g17, 0, none⟩) lA.length lA.length) lA) := F30.out.same (Same.of_below hb36 (by omega))
  have F40 : Hid (ZOwn w19.heap.size w26.heap.size w35 (.slice ra31 R.length rc32) R) := F34.out.same (Same.of_below hb36 (by omega))
  clear hb36 F28 F29 F30 F34
  go_wp2_with fail
  refine (toZ_any _ lA hn1A _ ((HAA.out.on F37.out).wide F37.out.size)).mono ?_
  rintro e w43 ⟨g41, rfl, hO42, hb44⟩
  have hsw43 : w35.heap.size ≤ w43.heap.size := hb44.size
  have F45 : Hid (Below w.heap.size w w43) := F37.out.trans (hb44.mono F37.out.size)
  have F46 : Hid (ZOwn w3.heap.size w9.heap.size w43 (.slice ra13 R.length rc14) R) := F38.out.same (Same.of_below hb44 (by omega))
  have F47 : Hid (ZOwn w9.heap.size w19.heap.size w43 (.slice (some ⟨g17, 0, none⟩) lA.length lA.length) lA) := F39.out.same (Same.of_below hb44 (by omega))
  have F48 : Hid (ZOwn w19.heap.size w26.heap.size w43 (.slice ra31 R.length rc32) R) := F40.out.same (Same.of_below hb44 (by omega))
  clear hb44 F37 F38 F39 F40
  have F49 : Hid (ZOwn w35.heap.size w43.heap.size w43 (.slice (some ⟨g41, 0, none⟩) lA.length lA.length) lA) := hO42
  clear hO42
  go_wp2_with fail
  refine (eqZ_any _ _ lA hn1A _ (F47.out.at.wide (by omega)) (F49.out.at.wide (by omega))).mono ?_
  rintro e w50 ⟨rfl, hb51⟩
  have hsw50 : w43.heap.size ≤ w50.heap.size := hb51.size
  have F52 : Hid (Below w.heap.size w w50) := F45.out.trans (hb51.mono F45.out.size)
  have F53 : Hid (ZOwn w3.heap.size w9.heap.size w50 (.slice ra13 R.length rc14) R) := F46.out.same (Same.of_below hb51 (by omega))
  have F54 : Hid (ZOwn w9.heap.size w19.heap.size w50 (.slice (some ⟨g17, 0, none⟩) lA.length lA.length) lA) := F47.out.same (Same.of_below hb51 (by omega))
  have F55 : Hid (ZOwn w19.heap.size w26.heap.size w50 (.slice ra31 R.length rc32) R) := F48.out.same (Same.of_below hb51 (by omega))
  have F56 : Hid (ZOwn w35.heap.size w43.heap.size w50 (.slice (some ⟨g41, 0, none⟩) lA.length lA.length) lA) := F49.out.same (Same.of_below hb51 (by omega))
  clear hb51 F45 F46 F47 F48 F49
  clear F56
  go_wp2_with fail
  refine (markZo_any _ lA (1) _ _ (by omega) hn1A _ F54.out).mono ?_
  rintro e w57 ⟨rfl, hR58, hk59⟩
  have hsw57 : w50.heap.size ≤ w57.heap.size := hk59.size
  have F60 : Hid (Below w.heap.size w w57) := hk59.bel F52.out F52.out.size (fun k q => by have h3 := q.1; omega)
  have F61 : Hid (ZOwn w3.heap.size w9.heap.size w57 (.slice ra13 R.length rc14) R) := F53.out.same (Same.of_kps hk59 (by omega) (fun k h1 h2 q => by have h3 := q.1; have h4 := q.2; omega))
  have F62 : Hid (ZOwn w19.heap.size w26.heap.size w57 (.slice ra31 R.length rc32) R) := F55.out.same (Same.of_kps hk59 (by omega) (fun k h1 h2 q => by have h3 := q.1; have h4 := q.2; omega))
  clear hk59 F52 F53 F55
  have F63 : Hid (ZOwn w9.heap.size w19.heap.size w57 (.slice (some ⟨g17, 0, none⟩) lA.length lA.length) (mkz (1) lA.length)) := hR58
  clear hR58 F54
  have hkp : ¬ ((1 + lA.length : Nat) : Int) < 0 := by omega
  clear F63
  go_wp2_with fail
  refine (eqZ_any _ _ R hbdR _ (F62.out.at.wide (by omega)) (F61.out.at.wide (by omega))).mono ?_
  rintro e w64 ⟨rfl, hb65⟩
  have hsw64 : w57.heap.size ≤ w64.heap.size := hb65.size
  have F66 : Hid (Below w.heap.size w w64) := F60.out.trans (hb65.mono F60.out.size)
  have F67 : Hid (ZOwn w3.heap.size w9.heap.size w64 (.slice ra13 R.length rc14) R) := F61.out.same (Same.of_below hb65 (by omega))
  have F68 : Hid (ZOwn w19.heap.size w26.heap.size w64 (.slice ra31 R.length rc32) R) := F62.out.same (Same.of_below hb65 (by omega))
  clear hb65 F60 F61 F62
  go_wp2_with fail
  refine (markZo_any _ R (1) _ _ (by omega) hbdR _ F68.out).mono ?_
  rintro e w69 ⟨rfl, hR70, hk71⟩
  have hsw69 : w64.heap.size ≤ w69.heap.size := hk71.size
  have F72 : Hid (Below w.heap.size w w69) := hk71.bel F66.out F66.out.size (fun k q => by have h3 := q.1; omega)
  have F73 : Hid (ZOwn w3.heap.size w9.heap.size w69 (.slice ra13 R.length rc14) R) := F67.out.same (Same.of_kps hk71 (by omega) (fun k h1 h2 q => by have h3 := q.1; have h4 := q.2; omega))
  clear hk71 F66 F67
  have F74 : Hid (ZOwn w19.heap.size w26.heap.size w69 (.slice ra31 R.length rc32) (mkz (1) R.length)) := hR70
  clear hR70 F68
  have hkm : ¬ ((1 + R.length : Nat) : Int) < 0 := by omega
  go_wp2_with fail
  refine (heldZo_any _ R.length (1) _ _ (by omega) hbdR _ F74.out).mono ?_
  rintro e w75 ⟨rfl, hb76⟩
  have hsw75 : w69.heap.size ≤ w75.heap.size := hb76.size
  have F77 : Hid (Below w.heap.size w w75) := F72.out.trans (hb76.mono F72.out.size)
  have F78 : Hid (ZOwn w3.heap.size w9.heap.size w75 (.slice ra13 R.length rc14) R) := F73.out.same (Same.of_below hb76 (by omega))
  have F79 : Hid (ZOwn w19.heap.size w26.heap.size w75 (.slice ra31 R.length rc32) (mkz (1) R.length)) := F74.out.same (Same.of_below hb76 (by omega))
  clear hb76 F72 F73 F74
  go_wp2_with fail
  refine (toZ_any _ lA hn1A _ ((HAA.out.on F77.out).wide F77.out.size)).mono ?_
  rintro e w82 ⟨g80, rfl, hO81, hb83⟩
  have hsw82 : w75.heap.size ≤ w82.heap.size := hb83.size
  have F84 : Hid (Below w.heap.size w w82) := F77.out.trans (hb83.mono F77.out.size)
  have F85 : Hid (ZOwn w3.heap.size w9.heap.size w82 (.slice ra13 R.length rc14) R) := F78.out.same (Same.of_below hb83 (by omega))
  have F86 : Hid (ZOwn w19.heap.size w26.heap.size w82 (.slice ra31 R.length rc32) (mkz (1) R.length)) := F79.out.same (Same.of_below hb83 (by omega))
  clear hb83 F77 F78 F79
  have F87 : Hid (ZOwn w75.heap.size w82.heap.size w82 (.slice (some ⟨g80, 0, none⟩) lA.length lA.length) lA) := hO81
  clear hO81
  go_wp2_with fail
  refine (HQ1.out _ _ (F87.out.at.wide (by omega))).mono ?_
  rintro e w90 ⟨v88, rfl, hO89, hb91⟩
  have hsw90 : w82.heap.size ≤ w90.heap.size := hb91.size
  have F92 : Hid (Below w.heap.size w w90) := F84.out.trans (hb91.mono F84.out.size)
  have F93 : Hid (ZOwn w3.heap.size w9.heap.size w90 (.slice ra13 R.length rc14) R) := F85.out.same (Same.of_below hb91 (by omega))
  have F94 : Hid (ZOwn w19.heap.size w26.heap.size w90 (.slice ra31 R.length rc32) (mkz (1) R.length)) := F86.out.same (Same.of_below hb91 (by omega))
  have F95 : Hid (ZOwn w75.heap.size w82.heap.size w90 (.slice (some ⟨g80, 0, none⟩) lA.length lA.length) lA) := F87.out.same (Same.of_below hb91 (by omega))
  clear hb91 F84 F85 F86 F87
  obtain ⟨ra96, rc97, hv98⟩ := row_form hO89.1
  subst hv98
  have F99 : Hid (ZOwn w82.heap.size w90.heap.size w90 (.slice ra96 R.length rc97) R) := hO89
  clear hO89
  clear HQ1
  clear F95
  go_wp2_with fail
  refine (eqZ_any _ _ R hbdR _ (F99.out.at.wide (by omega)) (F93.out.at.wide (by omega))).mono ?_
  rintro e w100 ⟨rfl, hb101⟩
  have hsw100 : w90.heap.size ≤ w100.heap.size := hb101.size
  have F102 : Hid (Below w.heap.size w w100) := F92.out.trans (hb101.mono F92.out.size)
  have F103 : Hid (ZOwn w3.heap.size w9.heap.size w100 (.slice ra13 R.length rc14) R) := F93.out.same (Same.of_below hb101 (by omega))
  have F104 : Hid (ZOwn w19.heap.size w26.heap.size w100 (.slice ra31 R.length rc32) (mkz (1) R.length)) := F94.out.same (Same.of_below hb101 (by omega))
  have F105 : Hid (ZOwn w82.heap.size w90.heap.size w100 (.slice ra96 R.length rc97) R) := F99.out.same (Same.of_below hb101 (by omega))
  clear hb101 F92 F93 F94 F99
  go_wp2_with fail
  refine (heldZo_any _ R.length (1) _ _ (by omega) hbdR _ F104.out).mono ?_
  rintro e w106 ⟨rfl, hb107⟩
  have hsw106 : w100.heap.size ≤ w106.heap.size := hb107.size
  have F108 : Hid (Below w.heap.size w w106) := F102.out.trans (hb107.mono F102.out.size)
  have F109 : Hid (ZOwn w3.heap.size w9.heap.size w106 (.slice ra13 R.length rc14) R) := F103.out.same (Same.of_below hb107 (by omega))
  have F110 : Hid (ZOwn w19.heap.size w26.heap.size w106 (.slice ra31 R.length rc32) (mkz (1) R.length)) := F104.out.same (Same.of_below hb107 (by omega))
  have F111 : Hid (ZOwn w82.heap.size w90.heap.size w106 (.slice ra96 R.length rc97) R) := F105.out.same (Same.of_below hb107 (by omega))
  clear hb107 F102 F103 F104 F105
  go_wp2
  go_ret
  exact ⟨rfl, F108.out⟩

set_option maxHeartbeats 6400000 in
set_option maxRecDepth 100000 in
theorem lawPolyAdd (aA : Option Addr) (nA cA : Nat) (aB : Option Addr) (nB cB : Nat) (hnA : nA ≤ 9223372036854775807) (hnB : nB ≤ 9223372036854775807) (fA : Nat → Int) (fB : Nat → Int) (w : World) (hAA : IntsAt w aA nA w.heap.size fA) (hAB : IntsAt w aB nB w.heap.size fB) :
    Calls Try.prog 7 #[.slice aA nA cA, .slice aB nB cB] w fun e w' => e = .returned (.bool true) ∧ Below w.heap.size w w' := by
  obtain ⟨lA, hlA⟩ : ∃ l, l = zls fA nA := ⟨_, rfl⟩
  have hllA : Hid (lA.length = nA) := by rw [hlA]; exact zls_length _ _
  have HAA : Hid (ZAt w w.heap.size (.slice aA nA cA) lA) := by rw [hlA]; exact ZAt.of hAA
  clear hlA hAA
  obtain ⟨lB, hlB⟩ : ∃ l, l = zls fB nB := ⟨_, rfl⟩
  have hllB : Hid (lB.length = nB) := by rw [hlB]; exact zls_length _ _
  have HAB : Hid (ZAt w w.heap.size (.slice aB nB cB) lB) := by rw [hlB]; exact ZAt.of hAB
  clear hlB hAB
  by_cases hbA : 1048576 < nA
  · have hbA' : (1048576 : Int) < (nA : Int) := by omega
    go_enter Try.func7, Try.ntmps7
    go_wp2
    go_ret
    exact ⟨rfl, Below.refl _ _⟩
  have hbA' : ¬ (1048576 : Int) < (nA : Int) := by omega
  have hn1A : lA.length ≤ 1048576 := by have := hllA.out; omega
  by_cases hbB : 1048576 < nB
  · have hbB' : (1048576 : Int) < (nB : Int) := by omega
    go_enter Try.func7, Try.ntmps7
    go_wp2
    go_ret
    exact ⟨rfl, Below.refl _ _⟩
  have hbB' : ¬ (1048576 : Int) < (nB : Int) := by omega
  have hn1B : lB.length ≤ 1048576 := by have := hllB.out; omega
  have HB0 : Hid (Below w.heap.size w w) := Below.refl _ _
  obtain ⟨R, hbd0, hq1, hq2⟩ : ∃ (R : List Int) , (R.length ≤ 1048576) ∧ (∀ vA vB w, ZAt w w.heap.size vA lA → ZAt w w.heap.size vB lB → Calls Try.prog 29 #[vA, vB] w fun e w' => ∃ vR, e = .returned (vR) ∧ ZOwn w.heap.size w'.heap.size w' vR R ∧ Below w.heap.size w w') ∧ (∀ vA vB w, ZAt w w.heap.size vA lA → ZAt w w.heap.size vB lB → Calls Try.prog 40 #[vA, vB] w fun e w' => ∃ vR, e = .returned (vR) ∧ ZOwn w.heap.size w'.heap.size w' vR R ∧ Below w.heap.size w w') := ⟨_, Nat.le_trans (pAdd_len lA lB) (by omega), fun vA vB w hA hB => (iAdd_any vA vB lA lB hn1A hn1B w hA hB), fun vA vB w hA hB => (sAdd_any vA vB lA lB hn1A hn1B w hA hB)⟩
  have HQ1 : Hid _ := hq1
  have HQ2 : Hid _ := hq2
  clear hq1 hq2
  go_enter Try.func7, Try.ntmps7
  go_wp2_with fail
  refine (toZ_any _ lA hn1A _ ((HAA.out.on HB0.out).wide HB0.out.size)).mono ?_
  rintro e w3 ⟨g1, rfl, hO2, hb4⟩
  have hsw3 : w.heap.size ≤ w3.heap.size := hb4.size
  have F5 : Hid (Below w.heap.size w w3) := HB0.out.trans (hb4.mono HB0.out.size)
  clear hb4 HB0
  have F6 : Hid (ZOwn w.heap.size w3.heap.size w3 (.slice (some ⟨g1, 0, none⟩) lA.length lA.length) lA) := hO2
  clear hO2
  go_wp2_with fail
  refine (toZ_any _ lB hn1B _ ((HAB.out.on F5.out).wide F5.out.size)).mono ?_
  rintro e w9 ⟨g7, rfl, hO8, hb10⟩
  have hsw9 : w3.heap.size ≤ w9.heap.size := hb10.size
  have F11 : Hid (Below w.heap.size w w9) := F5.out.trans (hb10.mono F5.out.size)
  have F12 : Hid (ZOwn w.heap.size w3.heap.size w9 (.slice (some ⟨g1, 0, none⟩) lA.length lA.length) lA) := F6.out.same (Same.of_below hb10 (by omega))
  clear hb10 F5 F6
  have F13 : Hid (ZOwn w3.heap.size w9.heap.size w9 (.slice (some ⟨g7, 0, none⟩) lB.length lB.length) lB) := hO8
  clear hO8
  go_wp2_with fail
  refine (HQ2.out _  _ _ (F12.out.at.wide (by omega)) (F13.out.at.wide (by omega))).mono ?_
  rintro e w16 ⟨v14, rfl, hO15, hb17⟩
  have hsw16 : w9.heap.size ≤ w16.heap.size := hb17.size
  have F18 : Hid (Below w.heap.size w w16) := F11.out.trans (hb17.mono F11.out.size)
  have F19 : Hid (ZOwn w.heap.size w3.heap.size w16 (.slice (some ⟨g1, 0, none⟩) lA.length lA.length) lA) := F12.out.same (Same.of_below hb17 (by omega))
  have F20 : Hid (ZOwn w3.heap.size w9.heap.size w16 (.slice (some ⟨g7, 0, none⟩) lB.length lB.length) lB) := F13.out.same (Same.of_below hb17 (by omega))
  clear hb17 F11 F12 F13
  obtain ⟨ra21, rc22, hv23⟩ := row_form hO15.1
  subst hv23
  have F24 : Hid (ZOwn w9.heap.size w16.heap.size w16 (.slice ra21 R.length rc22) R) := hO15
  clear hO15
  clear HQ2
  clear F19 F20
  go_wp2_with fail
  refine (toZ_any _ lA hn1A _ ((HAA.out.on F18.out).wide F18.out.size)).mono ?_
  rintro e w27 ⟨g25, rfl, hO26, hb28⟩
  have hsw27 : w16.heap.size ≤ w27.heap.size := hb28.size
  have F29 : Hid (Below w.heap.size w w27) := F18.out.trans (hb28.mono F18.out.size)
  have F30 : Hid (ZOwn w9.heap.size w16.heap.size w27 (.slice ra21 R.length rc22) R) := F24.out.same (Same.of_below hb28 (by omega))
  clear hb28 F18 F24
  have F31 : Hid (ZOwn w16.heap.size w27.heap.size w27 (.slice (some ⟨g25, 0, none⟩) lA.length lA.length) lA) := hO26
  clear hO26
  go_wp2_with fail
  refine (toZ_any _ lB hn1B _ ((HAB.out.on F29.out).wide F29.out.size)).mono ?_
  rintro e w34 ⟨g32, rfl, hO33, hb35⟩
  have hsw34 : w27.heap.size ≤ w34.heap.size := hb35.size
  have F36 : Hid (Below w.heap.size w w34) := F29.out.trans (hb35.mono F29.out.size)
  have F37 : Hid (ZOwn w9.heap.size w16.heap.size w34 (.slice ra21 R.length rc22) R) := F30.out.same (Same.of_below hb35 (by omega))
  have F38 : Hid (ZOwn w16.heap.size w27.heap.size w34 (.slice (some ⟨g25, 0, none⟩) lA.length lA.length) lA) := F31.out.same (Same.of_below hb35 (by omega))
  clear hb35 F29 F30 F31
  have F39 : Hid (ZOwn w27.heap.size w34.heap.size w34 (.slice (some ⟨g32, 0, none⟩) lB.length lB.length) lB) := hO33
  clear hO33
  go_wp2_with fail
  refine (HQ1.out _  _ _ (F38.out.at.wide (by omega)) (F39.out.at.wide (by omega))).mono ?_
  rintro e w42 ⟨v40, rfl, hO41, hb43⟩
  have hsw42 : w34.heap.size ≤ w42.heap.size := hb43.size
  have F44 : Hid (Below w.heap.size w w42) := F36.out.trans (hb43.mono F36.out.size)
  have F45 : Hid (ZOwn w9.heap.size w16.heap.size w42 (.slice ra21 R.length rc22) R) := F37.out.same (Same.of_below hb43 (by omega))
  have F46 : Hid (ZOwn w16.heap.size w27.heap.size w42 (.slice (some ⟨g25, 0, none⟩) lA.length lA.length) lA) := F38.out.same (Same.of_below hb43 (by omega))
  have F47 : Hid (ZOwn w27.heap.size w34.heap.size w42 (.slice (some ⟨g32, 0, none⟩) lB.length lB.length) lB) := F39.out.same (Same.of_below hb43 (by omega))
  clear hb43 F36 F37 F38 F39
  obtain ⟨ra48, rc49, hv50⟩ := row_form hO41.1
  subst hv50
  have F51 : Hid (ZOwn w34.heap.size w42.heap.size w42 (.slice ra48 R.length rc49) R) := hO41
  clear hO41
  have hbdR := hbd0
  go_wp2_with fail
  refine (eqZ_any _ _ R hbdR _ (F51.out.at.wide (by omega)) (F45.out.at.wide (by omega))).mono ?_
  rintro e w52 ⟨rfl, hb53⟩
  have hsw52 : w42.heap.size ≤ w52.heap.size := hb53.size
  have F54 : Hid (Below w.heap.size w w52) := F44.out.trans (hb53.mono F44.out.size)
  have F55 : Hid (ZOwn w9.heap.size w16.heap.size w52 (.slice ra21 R.length rc22) R) := F45.out.same (Same.of_below hb53 (by omega))
  have F56 : Hid (ZOwn w16.heap.size w27.heap.size w52 (.slice (some ⟨g25, 0, none⟩) lA.length lA.length) lA) := F46.out.same (Same.of_below hb53 (by omega))
  have F57 : Hid (ZOwn w27.heap.size w34.heap.size w52 (.slice (some ⟨g32, 0, none⟩) lB.length lB.length) lB) := F47.out.same (Same.of_below hb53 (by omega))
  have F58 : Hid (ZOwn w34.heap.size w42.heap.size w52 (.slice ra48 R.length rc49) R) := F51.out.same (Same.of_below hb53 (by omega))
  clear hb53 F44 F45 F46 F47 F51
  go_wp2_with fail
  refine (toZ_any _ lA hn1A _ ((HAA.out.on F54.out).wide F54.out.size)).mono ?_
  rintro e w61 ⟨g59, rfl, hO60, hb62⟩
  have hsw61 : w52.heap.size ≤ w61.heap.size := hb62.size
  have F63 : Hid (Below w.heap.size w w61) := F54.out.trans (hb62.mono F54.out.size)
  have F64 : Hid (ZOwn w9.heap.size w16.heap.size w61 (.slice ra21 R.length rc22) R) := F55.out.same (Same.of_below hb62 (by omega))
  have F65 : Hid (ZOwn w16.heap.size w27.heap.size w61 (.slice (some ⟨g25, 0, none⟩) lA.length lA.length) lA) := F56.out.same (Same.of_below hb62 (by omega))
  have F66 : Hid (ZOwn w27.heap.size w34.heap.size w61 (.slice (some ⟨g32, 0, none⟩) lB.length lB.length) lB) := F57.out.same (Same.of_below hb62 (by omega))
  have F67 : Hid (ZOwn w34.heap.size w42.heap.size w61 (.slice ra48 R.length rc49) R) := F58.out.same (Same.of_below hb62 (by omega))
  clear hb62 F54 F55 F56 F57 F58
  have F68 : Hid (ZOwn w52.heap.size w61.heap.size w61 (.slice (some ⟨g59, 0, none⟩) lA.length lA.length) lA) := hO60
  clear hO60
  go_wp2_with fail
  refine (eqZ_any _ _ lA hn1A _ (F65.out.at.wide (by omega)) (F68.out.at.wide (by omega))).mono ?_
  rintro e w69 ⟨rfl, hb70⟩
  have hsw69 : w61.heap.size ≤ w69.heap.size := hb70.size
  have F71 : Hid (Below w.heap.size w w69) := F63.out.trans (hb70.mono F63.out.size)
  have F72 : Hid (ZOwn w9.heap.size w16.heap.size w69 (.slice ra21 R.length rc22) R) := F64.out.same (Same.of_below hb70 (by omega))
  have F73 : Hid (ZOwn w16.heap.size w27.heap.size w69 (.slice (some ⟨g25, 0, none⟩) lA.length lA.length) lA) := F65.out.same (Same.of_below hb70 (by omega))
  have F74 : Hid (ZOwn w27.heap.size w34.heap.size w69 (.slice (some ⟨g32, 0, none⟩) lB.length lB.length) lB) := F66.out.same (Same.of_below hb70 (by omega))
  have F75 : Hid (ZOwn w34.heap.size w42.heap.size w69 (.slice ra48 R.length rc49) R) := F67.out.same (Same.of_below hb70 (by omega))
  have F76 : Hid (ZOwn w52.heap.size w61.heap.size w69 (.slice (some ⟨g59, 0, none⟩) lA.length lA.length) lA) := F68.out.same (Same.of_below hb70 (by omega))
  clear hb70 F63 F64 F65 F66 F67 F68
  clear F76
  go_wp2_with fail
  refine (toZ_any _ lB hn1B _ ((HAB.out.on F71.out).wide F71.out.size)).mono ?_
  rintro e w79 ⟨g77, rfl, hO78, hb80⟩
  have hsw79 : w69.heap.size ≤ w79.heap.size := hb80.size
  have F81 : Hid (Below w.heap.size w w79) := F71.out.trans (hb80.mono F71.out.size)
  have F82 : Hid (ZOwn w9.heap.size w16.heap.size w79 (.slice ra21 R.length rc22) R) := F72.out.same (Same.of_below hb80 (by omega))
  have F83 : Hid (ZOwn w16.heap.size w27.heap.size w79 (.slice (some ⟨g25, 0, none⟩) lA.length lA.length) lA) := F73.out.same (Same.of_below hb80 (by omega))
  have F84 : Hid (ZOwn w27.heap.size w34.heap.size w79 (.slice (some ⟨g32, 0, none⟩) lB.length lB.length) lB) := F74.out.same (Same.of_below hb80 (by omega))
  have F85 : Hid (ZOwn w34.heap.size w42.heap.size w79 (.slice ra48 R.length rc49) R) := F75.out.same (Same.of_below hb80 (by omega))
  clear hb80 F71 F72 F73 F74 F75
  have F86 : Hid (ZOwn w69.heap.size w79.heap.size w79 (.slice (some ⟨g77, 0, none⟩) lB.length lB.length) lB) := hO78
  clear hO78
  go_wp2_with fail
  refine (eqZ_any _ _ lB hn1B _ (F84.out.at.wide (by omega)) (F86.out.at.wide (by omega))).mono ?_
  rintro e w87 ⟨rfl, hb88⟩
  have hsw87 : w79.heap.size ≤ w87.heap.size := hb88.size
  have F89 : Hid (Below w.heap.size w w87) := F81.out.trans (hb88.mono F81.out.size)
  have F90 : Hid (ZOwn w9.heap.size w16.heap.size w87 (.slice ra21 R.length rc22) R) := F82.out.same (Same.of_below hb88 (by omega))
  have F91 : Hid (ZOwn w16.heap.size w27.heap.size w87 (.slice (some ⟨g25, 0, none⟩) lA.length lA.length) lA) := F83.out.same (Same.of_below hb88 (by omega))
  have F92 : Hid (ZOwn w27.heap.size w34.heap.size w87 (.slice (some ⟨g32, 0, none⟩) lB.length lB.length) lB) := F84.out.same (Same.of_below hb88 (by omega))
  have F93 : Hid (ZOwn w34.heap.size w42.heap.size w87 (.slice ra48 R.length rc49) R) := F85.out.same (Same.of_below hb88 (by omega))
  have F94 : Hid (ZOwn w69.heap.size w79.heap.size w87 (.slice (some ⟨g77, 0, none⟩) lB.length lB.length) lB) := F86.out.same (Same.of_below hb88 (by omega))
  clear hb88 F81 F82 F83 F84 F85 F86
  clear F94
  go_wp2_with fail
  refine (markZo_any _ lA (1) _ _ (by omega) hn1A _ F91.out).mono ?_
  rintro e w95 ⟨rfl, hR96, hk97⟩
  have hsw95 : w87.heap.size ≤ w95.heap.size := hk97.size
  have F98 : Hid (Below w.heap.size w w95) := hk97.bel F89.out F89.out.size (fun k q => by have h3 := q.1; omega)
  have F99 : Hid (ZOwn w9.heap.size w16.heap.size w95 (.slice ra21 R.length rc22) R) := F90.out.same (Same.of_kps hk97 (by omega) (fun k h1 h2 q => by have h3 := q.1; have h4 := q.2; omega))
  have F100 : Hid (ZOwn w27.heap.size w34.heap.size w95 (.slice (some ⟨g32, 0, none⟩) lB.length lB.length) lB) := F92.out.same (Same.of_kps hk97 (by omega) (fun k h1 h2 q => by have h3 := q.1; have h4 := q.2; omega))
  have F101 : Hid (ZOwn w34.heap.size w42.heap.size w95 (.slice ra48 R.length rc49) R) := F93.out.same (Same.of_kps hk97 (by omega) (fun k h1 h2 q => by have h3 := q.1; have h4 := q.2; omega))
  clear hk97 F89 F90 F92 F93
  have F102 : Hid (ZOwn w16.heap.size w27.heap.size w95 (.slice (some ⟨g25, 0, none⟩) lA.length lA.length) (mkz (1) lA.length)) := hR96
  clear hR96 F91
  go_wp2_with fail
  refine (markZo_any _ lB (1 + lA.length) _ _ (by omega) hn1B _ F100.out).mono ?_
  rintro e w103 ⟨rfl, hR104, hk105⟩
  have hsw103 : w95.heap.size ≤ w103.heap.size := hk105.size
  have F106 : Hid (Below w.heap.size w w103) := hk105.bel F98.out F98.out.size (fun k q => by have h3 := q.1; omega)
  have F107 : Hid (ZOwn w9.heap.size w16.heap.size w103 (.slice ra21 R.length rc22) R) := F99.out.same (Same.of_kps hk105 (by omega) (fun k h1 h2 q => by have h3 := q.1; have h4 := q.2; omega))
  have F108 : Hid (ZOwn w16.heap.size w27.heap.size w103 (.slice (some ⟨g25, 0, none⟩) lA.length lA.length) (mkz (1) lA.length)) := F102.out.same (Same.of_kps hk105 (by omega) (fun k h1 h2 q => by have h3 := q.1; have h4 := q.2; omega))
  have F109 : Hid (ZOwn w34.heap.size w42.heap.size w103 (.slice ra48 R.length rc49) R) := F101.out.same (Same.of_kps hk105 (by omega) (fun k h1 h2 q => by have h3 := q.1; have h4 := q.2; omega))
  clear hk105 F98 F99 F102 F101
  have F110 : Hid (ZOwn w27.heap.size w34.heap.size w103 (.slice (some ⟨g32, 0, none⟩) lB.length lB.length) (mkz (1 + lA.length) lB.length)) := hR104
  clear hR104 F100
  have hkp : ¬ ((1 + lA.length + lB.length : Nat) : Int) < 0 := by omega
  clear F108
  clear F110
  go_wp2_with fail
  refine (eqZ_any _ _ R hbdR _ (F109.out.at.wide (by omega)) (F107.out.at.wide (by omega))).mono ?_
  rintro e w111 ⟨rfl, hb112⟩
  have hsw111 : w103.heap.size ≤ w111.heap.size := hb112.size
  have F113 : Hid (Below w.heap.size w w111) := F106.out.trans (hb112.mono F106.out.size)
  have F114 : Hid (ZOwn w9.heap.size w16.heap.size w111 (.slice ra21 R.length rc22) R) := F107.out.same (Same.of_below hb112 (by omega))
  have F115 : Hid (ZOwn w34.heap.size w42.heap.size w111 (.slice ra48 R.length rc49) R) := F109.out.same (Same.of_below hb112 (by omega))
  clear hb112 F106 F107 F109
  go_wp2_with fail
  refine (markZo_any _ R (1) _ _ (by omega) hbdR _ F115.out).mono ?_
  rintro e w116 ⟨rfl, hR117, hk118⟩
  have hsw116 : w111.heap.size ≤ w116.heap.size := hk118.size
  have F119 : Hid (Below w.heap.size w w116) := hk118.bel F113.out F113.out.size (fun k q => by have h3 := q.1; omega)
  have F120 : Hid (ZOwn w9.heap.size w16.heap.size w116 (.slice ra21 R.length rc22) R) := F114.out.same (Same.of_kps hk118 (by omega) (fun k h1 h2 q => by have h3 := q.1; have h4 := q.2; omega))
  clear hk118 F113 F114
  have F121 : Hid (ZOwn w34.heap.size w42.heap.size w116 (.slice ra48 R.length rc49) (mkz (1) R.length)) := hR117
  clear hR117 F115
  have hkm : ¬ ((1 + R.length : Nat) : Int) < 0 := by omega
  go_wp2_with fail
  refine (heldZo_any _ R.length (1) _ _ (by omega) hbdR _ F121.out).mono ?_
  rintro e w122 ⟨rfl, hb123⟩
  have hsw122 : w116.heap.size ≤ w122.heap.size := hb123.size
  have F124 : Hid (Below w.heap.size w w122) := F119.out.trans (hb123.mono F119.out.size)
  have F125 : Hid (ZOwn w9.heap.size w16.heap.size w122 (.slice ra21 R.length rc22) R) := F120.out.same (Same.of_below hb123 (by omega))
  have F126 : Hid (ZOwn w34.heap.size w42.heap.size w122 (.slice ra48 R.length rc49) (mkz (1) R.length)) := F121.out.same (Same.of_below hb123 (by omega))
  clear hb123 F119 F120 F121
  go_wp2_with fail
  refine (toZ_any _ lA hn1A _ ((HAA.out.on F124.out).wide F124.out.size)).mono ?_
  rintro e w129 ⟨g127, rfl, hO128, hb130⟩
  have hsw129 : w122.heap.size ≤ w129.heap.size := hb130.size
  have F131 : Hid (Below w.heap.size w w129) := F124.out.trans (hb130.mono F124.out.size)
  have F132 : Hid (ZOwn w9.heap.size w16.heap.size w129 (.slice ra21 R.length rc22) R) := F125.out.same (Same.of_below hb130 (by omega))
  have F133 : Hid (ZOwn w34.heap.size w42.heap.size w129 (.slice ra48 R.length rc49) (mkz (1) R.length)) := F126.out.same (Same.of_below hb130 (by omega))
  clear hb130 F124 F125 F126
  have F134 : Hid (ZOwn w122.heap.size w129.heap.size w129 (.slice (some ⟨g127, 0, none⟩) lA.length lA.length) lA) := hO128
  clear hO128
  go_wp2_with fail
  refine (toZ_any _ lB hn1B _ ((HAB.out.on F131.out).wide F131.out.size)).mono ?_
  rintro e w137 ⟨g135, rfl, hO136, hb138⟩
  have hsw137 : w129.heap.size ≤ w137.heap.size := hb138.size
  have F139 : Hid (Below w.heap.size w w137) := F131.out.trans (hb138.mono F131.out.size)
  have F140 : Hid (ZOwn w9.heap.size w16.heap.size w137 (.slice ra21 R.length rc22) R) := F132.out.same (Same.of_below hb138 (by omega))
  have F141 : Hid (ZOwn w34.heap.size w42.heap.size w137 (.slice ra48 R.length rc49) (mkz (1) R.length)) := F133.out.same (Same.of_below hb138 (by omega))
  have F142 : Hid (ZOwn w122.heap.size w129.heap.size w137 (.slice (some ⟨g127, 0, none⟩) lA.length lA.length) lA) := F134.out.same (Same.of_below hb138 (by omega))
  clear hb138 F131 F132 F133 F134
  have F143 : Hid (ZOwn w129.heap.size w137.heap.size w137 (.slice (some ⟨g135, 0, none⟩) lB.length lB.length) lB) := hO136
  clear hO136
  go_wp2_with fail
  refine (HQ1.out _  _ _ (F142.out.at.wide (by omega)) (F143.out.at.wide (by omega))).mono ?_
  rintro e w146 ⟨v144, rfl, hO145, hb147⟩
  have hsw146 : w137.heap.size ≤ w146.heap.size := hb147.size
  have F148 : Hid (Below w.heap.size w w146) := F139.out.trans (hb147.mono F139.out.size)
  have F149 : Hid (ZOwn w9.heap.size w16.heap.size w146 (.slice ra21 R.length rc22) R) := F140.out.same (Same.of_below hb147 (by omega))
  have F150 : Hid (ZOwn w34.heap.size w42.heap.size w146 (.slice ra48 R.length rc49) (mkz (1) R.length)) := F141.out.same (Same.of_below hb147 (by omega))
  have F151 : Hid (ZOwn w122.heap.size w129.heap.size w146 (.slice (some ⟨g127, 0, none⟩) lA.length lA.length) lA) := F142.out.same (Same.of_below hb147 (by omega))
  have F152 : Hid (ZOwn w129.heap.size w137.heap.size w146 (.slice (some ⟨g135, 0, none⟩) lB.length lB.length) lB) := F143.out.same (Same.of_below hb147 (by omega))
  clear hb147 F139 F140 F141 F142 F143
  obtain ⟨ra153, rc154, hv155⟩ := row_form hO145.1
  subst hv155
  have F156 : Hid (ZOwn w137.heap.size w146.heap.size w146 (.slice ra153 R.length rc154) R) := hO145
  clear hO145
  clear HQ1
  clear F151 F152
  go_wp2_with fail
  refine (eqZ_any _ _ R hbdR _ (F156.out.at.wide (by omega)) (F149.out.at.wide (by omega))).mono ?_
  rintro e w157 ⟨rfl, hb158⟩
  have hsw157 : w146.heap.size ≤ w157.heap.size := hb158.size
  have F159 : Hid (Below w.heap.size w w157) := F148.out.trans (hb158.mono F148.out.size)
  have F160 : Hid (ZOwn w9.heap.size w16.heap.size w157 (.slice ra21 R.length rc22) R) := F149.out.same (Same.of_below hb158 (by omega))
  have F161 : Hid (ZOwn w34.heap.size w42.heap.size w157 (.slice ra48 R.length rc49) (mkz (1) R.length)) := F150.out.same (Same.of_below hb158 (by omega))
  have F162 : Hid (ZOwn w137.heap.size w146.heap.size w157 (.slice ra153 R.length rc154) R) := F156.out.same (Same.of_below hb158 (by omega))
  clear hb158 F148 F149 F150 F156
  go_wp2_with fail
  refine (heldZo_any _ R.length (1) _ _ (by omega) hbdR _ F161.out).mono ?_
  rintro e w163 ⟨rfl, hb164⟩
  have hsw163 : w157.heap.size ≤ w163.heap.size := hb164.size
  have F165 : Hid (Below w.heap.size w w163) := F159.out.trans (hb164.mono F159.out.size)
  have F166 : Hid (ZOwn w9.heap.size w16.heap.size w163 (.slice ra21 R.length rc22) R) := F160.out.same (Same.of_below hb164 (by omega))
  have F167 : Hid (ZOwn w34.heap.size w42.heap.size w163 (.slice ra48 R.length rc49) (mkz (1) R.length)) := F161.out.same (Same.of_below hb164 (by omega))
  have F168 : Hid (ZOwn w137.heap.size w146.heap.size w163 (.slice ra153 R.length rc154) R) := F162.out.same (Same.of_below hb164 (by omega))
  clear hb164 F159 F160 F161 F162
  go_wp2
  go_ret
  exact ⟨rfl, F165.out⟩

set_option maxHeartbeats 6400000 in
set_option maxRecDepth 100000 in
theorem lawPolyMul (aA : Option Addr) (nA cA : Nat) (aB : Option Addr) (nB cB : Nat) (hnA : nA ≤ 9223372036854775807) (hnB : nB ≤ 9223372036854775807) (fA : Nat → Int) (fB : Nat → Int) (w : World) (hAA : IntsAt w aA nA w.heap.size fA) (hAB : IntsAt w aB nB w.heap.size fB) :
    Calls Try.prog 8 #[.slice aA nA cA, .slice aB nB cB] w fun e w' => e = .returned (.bool true) ∧ Below w.heap.size w w' := by
  obtain ⟨lA, hlA⟩ : ∃ l, l = zls fA nA := ⟨_, rfl⟩
  have hllA : Hid (lA.length = nA) := by rw [hlA]; exact zls_length _ _
  have HAA : Hid (ZAt w w.heap.size (.slice aA nA cA) lA) := by rw [hlA]; exact ZAt.of hAA
  clear hlA hAA
  obtain ⟨lB, hlB⟩ : ∃ l, l = zls fB nB := ⟨_, rfl⟩
  have hllB : Hid (lB.length = nB) := by rw [hlB]; exact zls_length _ _
  have HAB : Hid (ZAt w w.heap.size (.slice aB nB cB) lB) := by rw [hlB]; exact ZAt.of hAB
  clear hlB hAB
  by_cases hbA : 1048576 < nA
  · have hbA' : (1048576 : Int) < (nA : Int) := by omega
    go_enter Try.func8, Try.ntmps8
    go_wp2
    go_ret
    exact ⟨rfl, Below.refl _ _⟩
  have hbA' : ¬ (1048576 : Int) < (nA : Int) := by omega
  have hn1A : lA.length ≤ 1048576 := by have := hllA.out; omega
  by_cases hbB : 1048576 < nB
  · have hbB' : (1048576 : Int) < (nB : Int) := by omega
    go_enter Try.func8, Try.ntmps8
    go_wp2
    go_ret
    exact ⟨rfl, Below.refl _ _⟩
  have hbB' : ¬ (1048576 : Int) < (nB : Int) := by omega
  have hn1B : lB.length ≤ 1048576 := by have := hllB.out; omega
  have HB0 : Hid (Below w.heap.size w w) := Below.refl _ _
  obtain ⟨R, hbd0, hq1, hq2⟩ : ∃ (R : List Int) , (R.length ≤ 1048576) ∧ (∀ vA vB w, ZAt w w.heap.size vA lA → ZAt w w.heap.size vB lB → Calls Try.prog 27 #[vA, vB] w fun e w' => ∃ vR, e = .returned (vR) ∧ ZOwn w.heap.size w'.heap.size w' vR R ∧ Below w.heap.size w w') ∧ (∀ vA vB w, ZAt w w.heap.size vA lA → ZAt w w.heap.size vB lB → Calls Try.prog 41 #[vA, vB] w fun e w' => ∃ vR, e = .returned (vR) ∧ ZOwn w.heap.size w'.heap.size w' vR R ∧ Below w.heap.size w w') := ⟨_, pMul_len lA lB, fun vA vB w hA hB => (iMul_any vA vB lA lB hn1A hn1B w hA hB), fun vA vB w hA hB => (sMul_any vA vB lA lB hn1A hn1B w hA hB)⟩
  have HQ1 : Hid _ := hq1
  have HQ2 : Hid _ := hq2
  clear hq1 hq2
  go_enter Try.func8, Try.ntmps8
  go_wp2_with fail
  refine (toZ_any _ lA hn1A _ ((HAA.out.on HB0.out).wide HB0.out.size)).mono ?_
  rintro e w3 ⟨g1, rfl, hO2, hb4⟩
  have hsw3 : w.heap.size ≤ w3.heap.size := hb4.size
  have F5 : Hid (Below w.heap.size w w3) := HB0.out.trans (hb4.mono HB0.out.size)
  clear hb4 HB0
  have F6 : Hid (ZOwn w.heap.size w3.heap.size w3 (.slice (some ⟨g1, 0, none⟩) lA.length lA.length) lA) := hO2
  clear hO2
  go_wp2_with fail
  refine (toZ_any _ lB hn1B _ ((HAB.out.on F5.out).wide F5.out.size)).mono ?_
  rintro e w9 ⟨g7, rfl, hO8, hb10⟩
  have hsw9 : w3.heap.size ≤ w9.heap.size := hb10.size
  have F11 : Hid (Below w.heap.size w w9) := F5.out.trans (hb10.mono F5.out.size)
  have F12 : Hid (ZOwn w.heap.size w3.heap.size w9 (.slice (some ⟨g1, 0, none⟩) lA.length lA.length) lA) := F6.out.same (Same.of_below hb10 (by omega))
  clear hb10 F5 F6
  have F13 : Hid (ZOwn w3.heap.size w9.heap.size w9 (.slice (some ⟨g7, 0, none⟩) lB.length lB.length) lB) := hO8
  clear hO8
  go_wp2_with fail
  refine (HQ2.out _  _ _ (F12.out.at.wide (by omega)) (F13.out.at.wide (by omega))).mono ?_
  rintro e w16 ⟨v14, rfl, hO15, hb17⟩
  have hsw16 : w9.heap.size ≤ w16.heap.size := hb17.size
  have F18 : Hid (Below w.heap.size w w16) := F11.out.trans (hb17.mono F11.out.size)
  have F19 : Hid (ZOwn w.heap.size w3.heap.size w16 (.slice (some ⟨g1, 0, none⟩) lA.length lA.length) lA) := F12.out.same (Same.of_below hb17 (by omega))
  have F20 : Hid (ZOwn w3.heap.size w9.heap.size w16 (.slice (some ⟨g7, 0, none⟩) lB.length lB.length) lB) := F13.out.same (Same.of_below hb17 (by omega))
  clear hb17 F11 F12 F13
  obtain ⟨ra21, rc22, hv23⟩ := row_form hO15.1
  subst hv23
  have F24 : Hid (ZOwn w9.heap.size w16.heap.size w16 (.slice ra21 R.length rc22) R) := hO15
  clear hO15
  clear HQ2
  clear F19 F20
  go_wp2_with fail
  refine (toZ_any _ lA hn1A _ ((HAA.out.on F18.out).wide F18.out.size)).mono ?_
  rintro e w27 ⟨g25, rfl, hO26, hb28⟩
  have hsw27 : w16.heap.size ≤ w27.heap.size := hb28.size
  have F29 : Hid (Below w.heap.size w w27) := F18.out.trans (hb28.mono F18.out.size)
  have F30 : Hid (ZOwn w9.heap.size w16.heap.size w27 (.slice ra21 R.length rc22) R) := F24.out.same (Same.of_below hb28 (by omega))
  clear hb28 F18 F24
  have F31 : Hid (ZOwn w16.heap.size w27.heap.size w27 (.slice (some ⟨g25, 0, none⟩) lA.length lA.length) lA) := hO26
  clear hO26
  go_wp2_with fail
  refine (toZ_any _ lB hn1B _ ((HAB.out.on F29.out).wide F29.out.size)).mono ?_
  rintro e w34 ⟨g32, rfl, hO33, hb35⟩
  have hsw34 : w27.heap.size ≤ w34.heap.size := hb35.size
  have F36 : Hid (Below w.heap.size w w34) := F29.out.trans (hb35.mono F29.out.size)
  have F37 : Hid (ZOwn w9.heap.size w16.heap.size w34 (.slice ra21 R.length rc22) R) := F30.out.same (Same.of_below hb35 (by omega))
  have F38 : Hid (ZOwn w16.heap.size w27.heap.size w34 (.slice (some ⟨g25, 0, none⟩) lA.length lA.length) lA) := F31.out.same (Same.of_below hb35 (by omega))
  clear hb35 F29 F30 F31
  have F39 : Hid (ZOwn w27.heap.size w34.heap.size w34 (.slice (some ⟨g32, 0, none⟩) lB.length lB.length) lB) := hO33
  clear hO33
  go_wp2_with fail
  refine (HQ1.out _  _ _ (F38.out.at.wide (by omega)) (F39.out.at.wide (by omega))).mono ?_
  rintro e w42 ⟨v40, rfl, hO41, hb43⟩
  have hsw42 : w34.heap.size ≤ w42.heap.size := hb43.size
  have F44 : Hid (Below w.heap.size w w42) := F36.out.trans (hb43.mono F36.out.size)
  have F45 : Hid (ZOwn w9.heap.size w16.heap.size w42 (.slice ra21 R.length rc22) R) := F37.out.same (Same.of_below hb43 (by omega))
  have F46 : Hid (ZOwn w16.heap.size w27.heap.size w42 (.slice (some ⟨g25, 0, none⟩) lA.length lA.length) lA) := F38.out.same (Same.of_below hb43 (by omega))
  have F47 : Hid (ZOwn w27.heap.size w34.heap.size w42 (.slice (some ⟨g32, 0, none⟩) lB.length lB.length) lB) := F39.out.same (Same.of_below hb43 (by omega))
  clear hb43 F36 F37 F38 F39
  obtain ⟨ra48, rc49, hv50⟩ := row_form hO41.1
  subst hv50
  have F51 : Hid (ZOwn w34.heap.size w42.heap.size w42 (.slice ra48 R.length rc49) R) := hO41
  clear hO41
  have hbdR := hbd0
  go_wp2_with fail
  refine (eqZ_any _ _ R hbdR _ (F51.out.at.wide (by omega)) (F45.out.at.wide (by omega))).mono ?_
  rintro e w52 ⟨rfl, hb53⟩
  have hsw52 : w42.heap.size ≤ w52.heap.size := hb53.size
  have F54 : Hid (Below w.heap.size w w52) := F44.out.trans (hb53.mono F44.out.size)
  have F55 : Hid (ZOwn w9.heap.size w16.heap.size w52 (.slice ra21 R.length rc22) R) := F45.out.same (Same.of_below hb53 (by omega))
  have F56 : Hid (ZOwn w16.heap.size w27.heap.size w52 (.slice (some ⟨g25, 0, none⟩) lA.length lA.length) lA) := F46.out.same (Same.of_below hb53 (by omega))
  have F57 : Hid (ZOwn w27.heap.size w34.heap.size w52 (.slice (some ⟨g32, 0, none⟩) lB.length lB.length) lB) := F47.out.same (Same.of_below hb53 (by omega))
  have F58 : Hid (ZOwn w34.heap.size w42.heap.size w52 (.slice ra48 R.length rc49) R) := F51.out.same (Same.of_below hb53 (by omega))
  clear hb53 F44 F45 F46 F47 F51
  go_wp2_with fail
  refine (toZ_any _ lA hn1A _ ((HAA.out.on F54.out).wide F54.out.size)).mono ?_
  rintro e w61 ⟨g59, rfl, hO60, hb62⟩
  have hsw61 : w52.heap.size ≤ w61.heap.size := hb62.size
  have F63 : Hid (Below w.heap.size w w61) := F54.out.trans (hb62.mono F54.out.size)
  have F64 : Hid (ZOwn w9.heap.size w16.heap.size w61 (.slice ra21 R.length rc22) R) := F55.out.same (Same.of_below hb62 (by omega))
  have F65 : Hid (ZOwn w16.heap.size w27.heap.size w61 (.slice (some ⟨g25, 0, none⟩) lA.length lA.length) lA) := F56.out.same (Same.of_below hb62 (by omega))
  have F66 : Hid (ZOwn w27.heap.size w34.heap.size w61 (.slice (some ⟨g32, 0, none⟩) lB.length lB.length) lB) := F57.out.same (Same.of_below hb62 (by omega))
  have F67 : Hid (ZOwn w34.heap.size w42.heap.size w61 (.slice ra48 R.length rc49) R) := F58.out.same (Same.of_below hb62 (by omega))
  clear hb62 F54 F55 F56 F57 F58
  have F68 : Hid (ZOwn w52.heap.size w61.heap.size w61 (.slice (some ⟨g59, 0, none⟩) lA.length lA.length) lA) := hO60
  clear hO60
  go_wp2_with fail
  refine (eqZ_any _ _ lA hn1A _ (F65.out.at.wide (by omega)) (F68.out.at.wide (by omega))).mono ?_
  rintro e w69 ⟨rfl, hb70⟩
  have hsw69 : w61.heap.size ≤ w69.heap.size := hb70.size
  have F71 : Hid (Below w.heap.size w w69) := F63.out.trans (hb70.mono F63.out.size)
  have F72 : Hid (ZOwn w9.heap.size w16.heap.size w69 (.slice ra21 R.length rc22) R) := F64.out.same (Same.of_below hb70 (by omega))
  have F73 : Hid (ZOwn w16.heap.size w27.heap.size w69 (.slice (some ⟨g25, 0, none⟩) lA.length lA.length) lA) := F65.out.same (Same.of_below hb70 (by omega))
  have F74 : Hid (ZOwn w27.heap.size w34.heap.size w69 (.slice (some ⟨g32, 0, none⟩) lB.length lB.length) lB) := F66.out.same (Same.of_below hb70 (by omega))
  have F75 : Hid (ZOwn w34.heap.size w42.heap.size w69 (.slice ra48 R.length rc49) R) := F67.out.same (Same.of_below hb70 (by omega))
  have F76 : Hid (ZOwn w52.heap.size w61.heap.size w69 (.slice (some ⟨g59, 0, none⟩) lA.length lA.length) lA) := F68.out.same (Same.of_below hb70 (by omega))
  clear hb70 F63 F64 F65 F66 F67 F68
  clear F76
  go_wp2_with fail
  refine (toZ_any _ lB hn1B _ ((HAB.out.on F71.out).wide F71.out.size)).mono ?_
  rintro e w79 ⟨g77, rfl, hO78, hb80⟩
  have hsw79 : w69.heap.size ≤ w79.heap.size := hb80.size
  have F81 : Hid (Below w.heap.size w w79) := F71.out.trans (hb80.mono F71.out.size)
  have F82 : Hid (ZOwn w9.heap.size w16.heap.size w79 (.slice ra21 R.length rc22) R) := F72.out.same (Same.of_below hb80 (by omega))
  have F83 : Hid (ZOwn w16.heap.size w27.heap.size w79 (.slice (some ⟨g25, 0, none⟩) lA.length lA.length) lA) := F73.out.same (Same.of_below hb80 (by omega))
  have F84 : Hid (ZOwn w27.heap.size w34.heap.size w79 (.slice (some ⟨g32, 0, none⟩) lB.length lB.length) lB) := F74.out.same (Same.of_below hb80 (by omega))
  have F85 : Hid (ZOwn w34.heap.size w42.heap.size w79 (.slice ra48 R.length rc49) R) := F75.out.same (Same.of_below hb80 (by omega))
  clear hb80 F71 F72 F73 F74 F75
  have F86 : Hid (ZOwn w69.heap.size w79.heap.size w79 (.slice (some ⟨g77, 0, none⟩) lB.length lB.length) lB) := hO78
  clear hO78
  go_wp2_with fail
  refine (eqZ_any _ _ lB hn1B _ (F84.out.at.wide (by omega)) (F86.out.at.wide (by omega))).mono ?_
  rintro e w87 ⟨rfl, hb88⟩
  have hsw87 : w79.heap.size ≤ w87.heap.size := hb88.size
  have F89 : Hid (Below w.heap.size w w87) := F81.out.trans (hb88.mono F81.out.size)
  have F90 : Hid (ZOwn w9.heap.size w16.heap.size w87 (.slice ra21 R.length rc22) R) := F82.out.same (Same.of_below hb88 (by omega))
  have F91 : Hid (ZOwn w16.heap.size w27.heap.size w87 (.slice (some ⟨g25, 0, none⟩) lA.length lA.length) lA) := F83.out.same (Same.of_below hb88 (by omega))
  have F92 : Hid (ZOwn w27.heap.size w34.heap.size w87 (.slice (some ⟨g32, 0, none⟩) lB.length lB.length) lB) := F84.out.same (Same.of_below hb88 (by omega))
  have F93 : Hid (ZOwn w34.heap.size w42.heap.size w87 (.slice ra48 R.length rc49) R) := F85.out.same (Same.of_below hb88 (by omega))
  have F94 : Hid (ZOwn w69.heap.size w79.heap.size w87 (.slice (some ⟨g77, 0, none⟩) lB.length lB.length) lB) := F86.out.same (Same.of_below hb88 (by omega))
  clear hb88 F81 F82 F83 F84 F85 F86
  clear F94
  go_wp2_with fail
  refine (markZo_any _ lA (1) _ _ (by omega) hn1A _ F91.out).mono ?_
  rintro e w95 ⟨rfl, hR96, hk97⟩
  have hsw95 : w87.heap.size ≤ w95.heap.size := hk97.size
  have F98 : Hid (Below w.heap.size w w95) := hk97.bel F89.out F89.out.size (fun k q => by have h3 := q.1; omega)
  have F99 : Hid (ZOwn w9.heap.size w16.heap.size w95 (.slice ra21 R.length rc22) R) := F90.out.same (Same.of_kps hk97 (by omega) (fun k h1 h2 q => by have h3 := q.1; have h4 := q.2; omega))
  have F100 : Hid (ZOwn w27.heap.size w34.heap.size w95 (.slice (some ⟨g32, 0, none⟩) lB.length lB.length) lB) := F92.out.same (Same.of_kps hk97 (by omega) (fun k h1 h2 q => by have h3 := q.1; have h4 := q.2; omega))
  have F101 : Hid (ZOwn w34.heap.size w42.heap.size w95 (.slice ra48 R.length rc49) R) := F93.out.same (Same.of_kps hk97 (by omega) (fun k h1 h2 q => by have h3 := q.1; have h4 := q.2; omega))
  clear hk97 F89 F90 F92 F93
  have F102 : Hid (ZOwn w16.heap.size w27.heap.size w95 (.slice (some ⟨g25, 0, none⟩) lA.length lA.length) (mkz (1) lA.length)) := hR96
  clear hR96 F91
  go_wp2_with fail
  refine (markZo_any _ lB (1 + lA.length) _ _ (by omega) hn1B _ F100.out).mono ?_
  rintro e w103 ⟨rfl, hR104, hk105⟩
  have hsw103 : w95.heap.size ≤ w103.heap.size := hk105.size
  have F106 : Hid (Below w.heap.size w w103) := hk105.bel F98.out F98.out.size (fun k q => by have h3 := q.1; omega)
  have F107 : Hid (ZOwn w9.heap.size w16.heap.size w103 (.slice ra21 R.length rc22) R) := F99.out.same (Same.of_kps hk105 (by omega) (fun k h1 h2 q => by have h3 := q.1; have h4 := q.2; omega))
  have F108 : Hid (ZOwn w16.heap.size w27.heap.size w103 (.slice (some ⟨g25, 0, none⟩) lA.length lA.length) (mkz (1) lA.length)) := F102.out.same (Same.of_kps hk105 (by omega) (fun k h1 h2 q => by have h3 := q.1; have h4 := q.2; omega))
  have F109 : Hid (ZOwn w34.heap.size w42.heap.size w103 (.slice ra48 R.length rc49) R) := F101.out.same (Same.of_kps hk105 (by omega) (fun k h1 h2 q => by have h3 := q.1; have h4 := q.2; omega))
  clear hk105 F98 F99 F102 F101
  have F110 : Hid (ZOwn w27.heap.size w34.heap.size w103 (.slice (some ⟨g32, 0, none⟩) lB.length lB.length) (mkz (1 + lA.length) lB.length)) := hR104
  clear hR104 F100
  have hkp : ¬ ((1 + lA.length + lB.length : Nat) : Int) < 0 := by omega
  clear F108
  clear F110
  go_wp2_with fail
  refine (eqZ_any _ _ R hbdR _ (F109.out.at.wide (by omega)) (F107.out.at.wide (by omega))).mono ?_
  rintro e w111 ⟨rfl, hb112⟩
  have hsw111 : w103.heap.size ≤ w111.heap.size := hb112.size
  have F113 : Hid (Below w.heap.size w w111) := F106.out.trans (hb112.mono F106.out.size)
  have F114 : Hid (ZOwn w9.heap.size w16.heap.size w111 (.slice ra21 R.length rc22) R) := F107.out.same (Same.of_below hb112 (by omega))
  have F115 : Hid (ZOwn w34.heap.size w42.heap.size w111 (.slice ra48 R.length rc49) R) := F109.out.same (Same.of_below hb112 (by omega))
  clear hb112 F106 F107 F109
  go_wp2_with fail
  refine (markZo_any _ R (1) _ _ (by omega) hbdR _ F115.out).mono ?_
  rintro e w116 ⟨rfl, hR117, hk118⟩
  have hsw116 : w111.heap.size ≤ w116.heap.size := hk118.size
  have F119 : Hid (Below w.heap.size w w116) := hk118.bel F113.out F113.out.size (fun k q => by have h3 := q.1; omega)
  have F120 : Hid (ZOwn w9.heap.size w16.heap.size w116 (.slice ra21 R.length rc22) R) := F114.out.same (Same.of_kps hk118 (by omega) (fun k h1 h2 q => by have h3 := q.1; have h4 := q.2; omega))
  clear hk118 F113 F114
  have F121 : Hid (ZOwn w34.heap.size w42.heap.size w116 (.slice ra48 R.length rc49) (mkz (1) R.length)) := hR117
  clear hR117 F115
  have hkm : ¬ ((1 + R.length : Nat) : Int) < 0 := by omega
  go_wp2_with fail
  refine (heldZo_any _ R.length (1) _ _ (by omega) hbdR _ F121.out).mono ?_
  rintro e w122 ⟨rfl, hb123⟩
  have hsw122 : w116.heap.size ≤ w122.heap.size := hb123.size
  have F124 : Hid (Below w.heap.size w w122) := F119.out.trans (hb123.mono F119.out.size)
  have F125 : Hid (ZOwn w9.heap.size w16.heap.size w122 (.slice ra21 R.length rc22) R) := F120.out.same (Same.of_below hb123 (by omega))
  have F126 : Hid (ZOwn w34.heap.size w42.heap.size w122 (.slice ra48 R.length rc49) (mkz (1) R.length)) := F121.out.same (Same.of_below hb123 (by omega))
  clear hb123 F119 F120 F121
  go_wp2_with fail
  refine (toZ_any _ lA hn1A _ ((HAA.out.on F124.out).wide F124.out.size)).mono ?_
  rintro e w129 ⟨g127, rfl, hO128, hb130⟩
  have hsw129 : w122.heap.size ≤ w129.heap.size := hb130.size
  have F131 : Hid (Below w.heap.size w w129) := F124.out.trans (hb130.mono F124.out.size)
  have F132 : Hid (ZOwn w9.heap.size w16.heap.size w129 (.slice ra21 R.length rc22) R) := F125.out.same (Same.of_below hb130 (by omega))
  have F133 : Hid (ZOwn w34.heap.size w42.heap.size w129 (.slice ra48 R.length rc49) (mkz (1) R.length)) := F126.out.same (Same.of_below hb130 (by omega))
  clear hb130 F124 F125 F126
  have F134 : Hid (ZOwn w122.heap.size w129.heap.size w129 (.slice (some ⟨g127, 0, none⟩) lA.length lA.length) lA) := hO128
  clear hO128
  go_wp2_with fail
  refine (toZ_any _ lB hn1B _ ((HAB.out.on F131.out).wide F131.out.size)).mono ?_
  rintro e w137 ⟨g135, rfl, hO136, hb138⟩
  have hsw137 : w129.heap.size ≤ w137.heap.size := hb138.size
  have F139 : Hid (Below w.heap.size w w137) := F131.out.trans (hb138.mono F131.out.size)
  have F140 : Hid (ZOwn w9.heap.size w16.heap.size w137 (.slice ra21 R.length rc22) R) := F132.out.same (Same.of_below hb138 (by omega))
  have F141 : Hid (ZOwn w34.heap.size w42.heap.size w137 (.slice ra48 R.length rc49) (mkz (1) R.length)) := F133.out.same (Same.of_below hb138 (by omega))
  have F142 : Hid (ZOwn w122.heap.size w129.heap.size w137 (.slice (some ⟨g127, 0, none⟩) lA.length lA.length) lA) := F134.out.same (Same.of_below hb138 (by omega))
  clear hb138 F131 F132 F133 F134
  have F143 : Hid (ZOwn w129.heap.size w137.heap.size w137 (.slice (some ⟨g135, 0, none⟩) lB.length lB.length) lB) := hO136
  clear hO136
  go_wp2_with fail
  refine (HQ1.out _  _ _ (F142.out.at.wide (by omega)) (F143.out.at.wide (by omega))).mono ?_
  rintro e w146 ⟨v144, rfl, hO145, hb147⟩
  have hsw146 : w137.heap.size ≤ w146.heap.size := hb147.size
  have F148 : Hid (Below w.heap.size w w146) := F139.out.trans (hb147.mono F139.out.size)
  have F149 : Hid (ZOwn w9.heap.size w16.heap.size w146 (.slice ra21 R.length rc22) R) := F140.out.same (Same.of_below hb147 (by omega))
  have F150 : Hid (ZOwn w34.heap.size w42.heap.size w146 (.slice ra48 R.length rc49) (mkz (1) R.length)) := F141.out.same (Same.of_below hb147 (by omega))
  have F151 : Hid (ZOwn w122.heap.size w129.heap.size w146 (.slice (some ⟨g127, 0, none⟩) lA.length lA.length) lA) := F142.out.same (Same.of_below hb147 (by omega))
  have F152 : Hid (ZOwn w129.heap.size w137.heap.size w146 (.slice (some ⟨g135, 0, none⟩) lB.length lB.length) lB) := F143.out.same (Same.of_below hb147 (by omega))
  clear hb147 F139 F140 F141 F142 F143
  obtain ⟨ra153, rc154, hv155⟩ := row_form hO145.1
  subst hv155
  have F156 : Hid (ZOwn w137.heap.size w146.heap.size w146 (.slice ra153 R.length rc154) R) := hO145
  clear hO145
  clear HQ1
  clear F151 F152
  go_wp2_with fail
  refine (eqZ_any _ _ R hbdR _ (F156.out.at.wide (by omega)) (F149.out.at.wide (by omega))).mono ?_
  rintro e w157 ⟨rfl, hb158⟩
  have hsw157 : w146.heap.size ≤ w157.heap.size := hb158.size
  have F159 : Hid (Below w.heap.size w w157) := F148.out.trans (hb158.mono F148.out.size)
  have F160 : Hid (ZOwn w9.heap.size w16.heap.size w157 (.slice ra21 R.length rc22) R) := F149.out.same (Same.of_below hb158 (by omega))
  have F161 : Hid (ZOwn w34.heap.size w42.heap.size w157 (.slice ra48 R.length rc49) (mkz (1) R.length)) := F150.out.same (Same.of_below hb158 (by omega))
  have F162 : Hid (ZOwn w137.heap.size w146.heap.size w157 (.slice ra153 R.length rc154) R) := F156.out.same (Same.of_below hb158 (by omega))
  clear hb158 F148 F149 F150 F156
  go_wp2_with fail
  refine (heldZo_any _ R.length (1) _ _ (by omega) hbdR _ F161.out).mono ?_
  rintro e w163 ⟨rfl, hb164⟩
  have hsw163 : w157.heap.size ≤ w163.heap.size := hb164.size
  have F165 : Hid (Below w.heap.size w w163) := F159.out.trans (hb164.mono F159.out.size)
  have F166 : Hid (ZOwn w9.heap.size w16.heap.size w163 (.slice ra21 R.length rc22) R) := F160.out.same (Same.of_below hb164 (by omega))
  have F167 : Hid (ZOwn w34.heap.size w42.heap.size w163 (.slice ra48 R.length rc49) (mkz (1) R.length)) := F161.out.same (Same.of_below hb164 (by omega))
  have F168 : Hid (ZOwn w137.heap.size w146.heap.size w163 (.slice ra153 R.length rc154) R) := F162.out.same (Same.of_below hb164 (by omega))
  clear hb164 F159 F160 F161 F162
  go_wp2
  go_ret
  exact ⟨rfl, F165.out⟩


end Go.Proofs.Ytfiflcedbejamaa
