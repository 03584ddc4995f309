/-
  The walks of the exact laws of polynomials divided.
  (-DROP-: what the seat lacks is left out.)
-/
import Derived.Test.YtfiflcedbejamabPolyI
namespace Go.Proofs.Ytfiflcedbejamab
open Go.RowKit

set_option maxHeartbeats 6400000 in
set_option maxRecDepth 100000 in
theorem lawPolyDivide (aA : Option Addr) (nA cA : Nat) (aB : Option Addr) (nB cB : Nat) (hnA : nA ≤ 9223372036854775807) (hnB : nB ≤ 9223372036854775807) (fA : Nat → Int) (fB : Nat → Int) (w : World) (hAA : IntsAt w aA nA w.heap.size fA) (hAB : IntsAt w aB nB w.heap.size fB) :
    Calls Try.prog 6 #[.slice aA nA cA, .slice aB nB cB] w fun e w' => e = .returned (.bool true) ∧ Below w.heap.size w w' := by
  obtain ⟨lA, hlA⟩ : ∃ l, l = zls fA nA := ⟨_, rfl⟩
  have hllA : Hid (lA.length = nA) := by rw [hlA]; exact zls_length _ _
  have HAA : Hid (ZAt w w.heap.size (.slice aA nA cA) lA) := by rw [hlA]; exact ZAt.of hAA
  clear hlA hAA
  obtain ⟨lB, hlB⟩ : ∃ l, l = zls fB nB := ⟨_, rfl⟩
  have hllB : Hid (lB.length = nB) := by rw [hlB]; exact zls_length _ _
  have HAB : Hid (ZAt w w.heap.size (.slice aB nB cB) lB) := by rw [hlB]; exact ZAt.of hAB
  clear hlB hAB
  by_cases hbA : 1048576 < nA
  · have hbA' : (1048576 : Int) < (nA : Int) := by omega
    go_enter Try.func6, Try.ntmps6
    go_wp2
    go_ret
    exact ⟨rfl, Below.refl _ _⟩
  have hbA' : ¬ (1048576 : Int) < (nA : Int) := by omega
  have hn1A : lA.length ≤ 1048576 := by have := hllA.out; omega
  by_cases hbB : 1048576 < nB
  · have hbB' : (1048576 : Int) < (nB : Int) := by omega
    go_enter Try.func6, Try.ntmps6
    go_wp2
    go_ret
    exact ⟨rfl, Below.refl _ _⟩
  have hbB' : ¬ (1048576 : Int) < (nB : Int) := by omega
  have hn1B : lB.length ≤ 1048576 := by have := hllB.out; omega
  have HB0 : Hid (Below w.heap.size w w) := Below.refl _ _
  obtain ⟨Q, R, hbd0, hbd1, hq1, hq2⟩ : ∃ (Q : List Int) (R : List Int) , (Q.length ≤ 1048576) ∧ (R.length ≤ 1048576) ∧ (∀ vA vB w, ZAt w w.heap.size vA lA → ZAt w w.heap.size vB lB → Calls Try.prog 18 #[vA, vB] w fun e w' => ∃ vQ vR, e = .returned (.tuple #[vQ, vR]) ∧ ZOwn w.heap.size w'.heap.size w' vQ Q ∧ ZOwn w.heap.size w'.heap.size w' vR R ∧ (∀ g, vQ.ownBlock = some g → vR.ownBlock ≠ some g) ∧ Below w.heap.size w w') ∧ (∀ vA vB w, ZAt w w.heap.size vA lA → ZAt w w.heap.size vB lB → Calls Try.prog 17 #[vA, vB] w fun e w' => ∃ vQ vR, e = .returned (.tuple #[vQ, vR]) ∧ ZOwn w.heap.size w'.heap.size w' vQ Q ∧ ZOwn w.heap.size w'.heap.size w' vR R ∧ (∀ g, vQ.ownBlock = some g → vR.ownBlock ≠ some g) ∧ Below w.heap.size w w') := ⟨_, _, pQuo_len lA lB, pRem_len lA lB, fun vA vB w hA hB => (iDiv_any vA vB lA lB hn1A hn1B w hA hB), fun vA vB w hA hB => (sDiv_any vA vB lA lB hn1A hn1B w hA hB)⟩
  have HQ1 : Hid _ := hq1
  have HQ2 : Hid _ := hq2
  clear hq1 hq2
  go_enter Try.func6, Try.ntmps6
  go_wp2_with fail
  refine (toZ_any _ lA hn1A _ ((HAA.out.on HB0.out).wide HB0.out.size)).mono ?_
  rintro e w3 ⟨g1, rfl, hO2, hb4⟩
  have hsw3 : w.heap.size ≤ w3.heap.size := hb4.size
  have F5 : Hid (Below w.heap.size w w3) := HB0.out.trans (hb4.mono HB0.out.size)
  clear hb4 HB0
  have F6 : Hid (ZOwn w.heap.size w3.heap.size w3 (.slice (some ⟨g1, 0, none⟩) lA.length lA.length) lA) := hO2
  clear hO2
  go_wp2_with fail
  refine (toZ_any _ lB hn1B _ ((HAB.out.on F5.out).wide F5.out.size)).mono ?_
  rintro e w9 ⟨g7, rfl, hO8, hb10⟩
  have hsw9 : w3.heap.size ≤ w9.heap.size := hb10.size
  have F11 : Hid (Below w.heap.size w w9) := F5.out.trans (hb10.mono F5.out.size)
  have F12 : Hid (ZOwn w.heap.size w3.heap.size w9 (.slice (some ⟨g1, 0, none⟩) lA.length lA.length) lA) := F6.out.same (Same.of_below hb10 (by omega))
  clear hb10 F5 F6
  have F13 : Hid (ZOwn w3.heap.size w9.heap.size w9 (.slice (some ⟨g7, 0, none⟩) lB.length lB.length) lB) := hO8
  clear hO8
  go_wp2_with fail
  refine (HQ2.out _  _ _ (F12.out.at.wide (by omega)) (F13.out.at.wide (by omega))).mono ?_
  rintro e w19 ⟨v14, v16, rfl, hO15, hO17, hD18, hb20⟩
  have hsw19 : w9.heap.size ≤ w19.heap.size := hb20.size
  have F21 : Hid (Below w.heap.size w w19) := F11.out.trans (hb20.mono F11.out.size)
  have F22 : Hid (ZOwn w.heap.size w3.heap.size w19 (.slice (some ⟨g1, 0, none⟩) lA.length lA.length) lA) := F12.out.same (Same.of_below hb20 (by omega))
  have F23 : Hid (ZOwn w3.heap.size w9.heap.size w19 (.slice (some ⟨g7, 0, none⟩) lB.length lB.length) lB) := F13.out.same (Same.of_below hb20 (by omega))
  clear hb20 F11 F12 F13
  obtain ⟨ra24, rc25, hv26⟩ := row_form hO15.1
  subst hv26
  have F27 : Hid (ZOwn w9.heap.size w19.heap.size w19 (.slice ra24 Q.length rc25) Q) := hO15
  clear hO15
  obtain ⟨ra28, rc29, hv30⟩ := row_form hO17.1
  subst hv30
  have F31 : Hid (ZOwn w9.heap.size w19.heap.size w19 (.slice ra28 R.length rc29) R) := hO17
  clear hO17
  have HD32 : Hid (∀ g, (Value.slice ra24 Q.length rc25).ownBlock = some g → (Value.slice ra28 R.length rc29).ownBlock ≠ some g) := hD18
  clear hD18
  clear HQ2
  clear F22 F23
  go_wp2_with fail
  refine (toZ_any _ lA hn1A _ ((HAA.out.on F21.out).wide F21.out.size)).mono ?_
  rintro e w35 ⟨g33, rfl, hO34, hb36⟩
  have hsw35 : w19.heap.size ≤ w35.heap.size := hb36.size
  have F37 : Hid (Below w.heap.size w w35) := F21.out.trans (hb36.mono F21.out.size)
  have F38 : Hid (ZOwn w9.heap.size w19.heap.size w35 (.slice ra24 Q.length rc25) Q) := F27.out.same (Same.of_below hb36 (by omega))
  have F39 : Hid (ZOwn w9.heap.size w19.heap.size w35 (.slice ra28 R.length rc29) R) := F31.out.same (Same.of_below hb36 (by omega))
  clear hb36 F21 F27 F31
  have F40 : Hid (ZOwn w19.heap.size w35.heap.size w35 (.slice (some ⟨g33, 0, none⟩) lA.length lA.length) lA) := hO34
  clear hO34
  go_wp2_with fail
  refine (toZ_any _ lB hn1B _ ((HAB.out.on F37.out).wide F37.out.size)).mono ?_
  rintro e w43 ⟨g41, rfl, hO42, hb44⟩
  have hsw43 : w35.heap.size ≤ w43.heap.size := hb44.size
  have F45 : Hid (Below w.heap.size w w43) := F37.out.trans (hb44.mono F37.out.size)
  have F46 : Hid (ZOwn w9.heap.size w19.heap.size w43 (.slice ra24 Q.length rc25) Q) := F38.out.same (Same.of_below hb44 (by omega))
  have F47 : Hid (ZOwn w9.heap.size w19.heap.size w43 (.slice ra28 R.length rc29) R) := F39.out.same (Same.of_below hb44 (by omega))
  have F48 : Hid (ZOwn w19.heap.size w35.heap.size w43 (.slice (some ⟨g33, 0, none⟩) lA.length lA.length) lA) := F40.out.same (Same.of_below hb44 (by omega))
  clear hb44 F37 F38 F39 F40
  have F49 : Hid (ZOwn w35.heap.size w43.heap.size w43 (.slice (some ⟨g41, 0, none⟩) lB.length lB.length) lB) := hO42
  clear hO42
  go_wp2_with fail
  refine (HQ1.out _  _ _ (F48.out.at.wide (by omega)) (F49.out.at.wide (by omega))).mono ?_
  rintro e w55 ⟨v50, v52, rfl, hO51, hO53, hD54, hb56⟩
  have hsw55 : w43.heap.size ≤ w55.heap.size := hb56.size
  have F57 : Hid (Below w.heap.size w w55) := F45.out.trans (hb56.mono F45.out.size)
  have F58 : Hid (ZOwn w9.heap.size w19.heap.size w55 (.slice ra24 Q.length rc25) Q) := F46.out.same (Same.of_below hb56 (by omega))
  have F59 : Hid (ZOwn w9.heap.size w19.heap.size w55 (.slice ra28 R.length rc29) R) := F47.out.same (Same.of_below hb56 (by omega))
  have F60 : Hid (ZOwn w19.heap.size w35.heap.size w55 (.slice (some ⟨g33, 0, none⟩) lA.length lA.length) lA) := F48.out.same (Same.of_below hb56 (by omega))
  have F61 : Hid (ZOwn w35.heap.size w43.heap.size w55 (.slice (some ⟨g41, 0, none⟩) lB.length lB.length) lB) := F49.out.same (Same.of_below hb56 (by omega))
  clear hb56 F45 F46 F47 F48 F49
  obtain ⟨ra62, rc63, hv64⟩ := row_form hO51.1
  subst hv64
  have F65 : Hid (ZOwn w43.heap.size w55.heap.size w55 (.slice ra62 Q.length rc63) Q) := hO51
  clear hO51
  obtain ⟨ra66, rc67, hv68⟩ := row_form hO53.1
  subst hv68
  have F69 : Hid (ZOwn w43.heap.size w55.heap.size w55 (.slice ra66 R.length rc67) R) := hO53
  clear hO53
  have HD70 : Hid (∀ g, (Value.slice ra62 Q.length rc63).ownBlock = some g → (Value.slice ra66 R.length rc67).ownBlock ≠ some g) := hD54
  clear hD54
  have hbdQ := hbd0
  have hbdR := hbd1
  go_wp2_with fail
  refine (eqZ_any _ _ Q hbdQ _ (F65.out.at.wide (by omega)) (F58.out.at.wide (by omega))).mono ?_
  rintro e w71 ⟨rfl, hb72⟩
  have hsw71 : w55.heap.size ≤ w71.heap.size := hb72.size
  have F73 : Hid (Below w.heap.size w w71) := F57.out.trans (hb72.mono F57.out.size)
  have F74 : Hid (ZOwn w9.heap.size w19.heap.size w71 (.slice ra24 Q.length rc25) Q) := F58.out.same (Same.of_below hb72 (by omega))
  have F75 : Hid (ZOwn w9.heap.size w19.heap.size w71 (.slice ra28 R.length rc29) R) := F59.out.same (Same.of_below hb72 (by omega))
  have F76 : Hid (ZOwn w19.heap.size w35.heap.size w71 (.slice (some ⟨g33, 0, none⟩) lA.length lA.length) lA) := F60.out.same (Same.of_below hb72 (by omega))
  have F77 : Hid (ZOwn w35.heap.size w43.heap.size w71 (.slice (some ⟨g41, 0, none⟩) lB.length lB.length) lB) := F61.out.same (Same.of_below hb72 (by omega))
  have F78 : Hid (ZOwn w43.heap.size w55.heap.size w71 (.slice ra62 Q.length rc63) Q) := F65.out.same (Same.of_below hb72 (by omega))
  have F79 : Hid (ZOwn w43.heap.size w55.heap.size w71 (.slice ra66 R.length rc67) R) := F69.out.same (Same.of_below hb72 (by omega))
  clear hb72 F57 F58 F59 F60 F61 F65 F69
  go_wp2_with fail
  refine (eqZ_any _ _ R hbdR _ (F79.out.at.wide (by omega)) (F75.out.at.wide (by omega))).mono ?_
  rintro e w80 ⟨rfl, hb81⟩
  have hsw80 : w71.heap.size ≤ w80.heap.size := hb81.size
  have F82 : Hid (Below w.heap.size w w80) := F73.out.trans (hb81.mono F73.out.size)
  have F83 : Hid (ZOwn w9.heap.size w19.heap.size w80 (.slice ra24 Q.length rc25) Q) := F74.out.same (Same.of_below hb81 (by omega))
  have F84 : Hid (ZOwn w9.heap.size w19.heap.size w80 (.slice ra28 R.length rc29) R) := F75.out.same (Same.of_below hb81 (by omega))
  have F85 : Hid (ZOwn w19.heap.size w35.heap.size w80 (.slice (some ⟨g33, 0, none⟩) lA.length lA.length) lA) := F76.out.same (Same.of_below hb81 (by omega))
  have F86 : Hid (ZOwn w35.heap.size w43.heap.size w80 (.slice (some ⟨g41, 0, none⟩) lB.length lB.length) lB) := F77.out.same (Same.of_below hb81 (by omega))
  have F87 : Hid (ZOwn w43.heap.size w55.heap.size w80 (.slice ra62 Q.length rc63) Q) := F78.out.same (Same.of_below hb81 (by omega))
  have F88 : Hid (ZOwn w43.heap.size w55.heap.size w80 (.slice ra66 R.length rc67) R) := F79.out.same (Same.of_below hb81 (by omega))
  clear hb81 F73 F74 F75 F76 F77 F78 F79
  go_wp2_with fail
  refine (toZ_any _ lA hn1A _ ((HAA.out.on F82.out).wide F82.out.size)).mono ?_
  rintro e w91 ⟨g89, rfl, hO90, hb92⟩
  have hsw91 : w80.heap.size ≤ w91.heap.size := hb92.size
  have F93 : Hid (Below w.heap.size w w91) := F82.out.trans (hb92.mono F82.out.size)
  have F94 : Hid (ZOwn w9.heap.size w19.heap.size w91 (.slice ra24 Q.length rc25) Q) := F83.out.same (Same.of_below hb92 (by omega))
  have F95 : Hid (ZOwn w9.heap.size w19.heap.size w91 (.slice ra28 R.length rc29) R) := F84.out.same (Same.of_below hb92 (by omega))
  have F96 : Hid (ZOwn w19.heap.size w35.heap.size w91 (.slice (some ⟨g33, 0, none⟩) lA.length lA.length) lA) := F85.out.same (Same.of_below hb92 (by omega))
  have F97 : Hid (ZOwn w35.heap.size w43.heap.size w91 (.slice (some ⟨g41, 0, none⟩) lB.length lB.length) lB) := F86.out.same (Same.of_below hb92 (by omega))
  have F98 : Hid (ZOwn w43.heap.size w55.heap.size w91 (.slice ra62 Q.length rc63) Q) := F87.out.same (Same.of_below hb92 (by omega))
  have F99 : Hid (ZOwn w43.heap.size w55.heap.size w91 (.slice ra66 R.length rc67) R) := F88.out.same (Same.of_below hb92 (by omega))
  clear hb92 F82 F83 F84 F85 F86 F87 F88
  have F100 : Hid (ZOwn w80.heap.size w91.heap.size w91 (.slice (some ⟨g89, 0, none⟩) lA.length lA.length) lA) := hO90
  clear hO90
  go_wp2_with fail
  refine (eqZ_any _ _ lA hn1A _ (F96.out.at.wide (by omega)) (F100.out.at.wide (by omega))).mono ?_
  rintro e w101 ⟨rfl, hb102⟩
  have hsw101 : w91.heap.size ≤ w101.heap.size := hb102.size
  have F103 : Hid (Below w.heap.size w w101) := F93.out.trans (hb102.mono F93.out.size)
  have F104 : Hid (ZOwn w9.heap.size w19.heap.size w101 (.slice ra24 Q.length rc25) Q) := F94.out.same (Same.of_below hb102 (by omega))
  have F105 : Hid (ZOwn w9.heap.size w19.heap.size w101 (.slice ra28 R.length rc29) R) := F95.out.same (Same.of_below hb102 (by omega))
  have F106 : Hid (ZOwn w19.heap.size w35.heap.size w101 (.slice (some ⟨g33, 0, none⟩) lA.length lA.length) lA) := F96.out.same (Same.of_below hb102 (by omega))
  have F107 : Hid (ZOwn w35.heap.size w43.heap.size w101 (.slice (some ⟨g41, 0, none⟩) lB.length lB.length) lB) := F97.out.same (Same.of_below hb102 (by omega))
  have F108 : Hid (ZOwn w43.heap.size w55.heap.size w101 (.slice ra62 Q.length rc63) Q) := F98.out.same (Same.of_below hb102 (by omega))
  have F109 : Hid (ZOwn w43.heap.size w55.heap.size w101 (.slice ra66 R.length rc67) R) := F99.out.same (Same.of_below hb102 (by omega))
  have F110 : Hid (ZOwn w80.heap.size w91.heap.size w101 (.slice (some ⟨g89, 0, none⟩) lA.length lA.length) lA) := F100.out.same (Same.of_below hb102 (by omega))
  clear hb102 F93 F94 F95 F96 F97 F98 F99 F100
  clear F110
  go_wp2_with fail
  refine (toZ_any _ lB hn1B _ ((HAB.out.on F103.out).wide F103.out.size)).mono ?_
  rintro e w113 ⟨g111, rfl, hO112, hb114⟩
  have hsw113 : w101.heap.size ≤ w113.heap.size := hb114.size
  have F115 : Hid (Below w.heap.size w w113) := F103.out.trans (hb114.mono F103.out.size)
  have F116 : Hid (ZOwn w9.heap.size w19.heap.size w113 (.slice ra24 Q.length rc25) Q) := F104.out.same (Same.of_below hb114 (by omega))
  have F117 : Hid (ZOwn w9.heap.size w19.heap.size w113 (.slice ra28 R.length rc29) R) := F105.out.same (Same.of_below hb114 (by omega))
  have F118 : Hid (ZOwn w19.heap.size w35.heap.size w113 (.slice (some ⟨g33, 0, none⟩) lA.length lA.length) lA) := F106.out.same (Same.of_below hb114 (by omega))
  have F119 : Hid (ZOwn w35.heap.size w43.heap.size w113 (.slice (some ⟨g41, 0, none⟩) lB.length lB.length) lB) := F107.out.same (Same.of_below hb114 (by omega))
  have F120 : Hid (ZOwn w43.heap.size w55.heap.size w113 (.slice ra62 Q.length rc63) Q) := F108.out.same (Same.of_below hb114 (by omega))
  have F121 : Hid (ZOwn w43.heap.size w55.heap.size w113 (.slice ra66 R.length rc67) R) := F109.out.same (Same.of_below hb114 (by omega))
  clear hb114 F103 F104 F105 F106 F107 F108 F109
  have F122 : Hid (ZOwn w101.heap.size w113.heap.size w113 (.slice (some ⟨g111, 0, none⟩) lB.length lB.length) lB) := hO112
  clear hO112
  go_wp2_with fail
  refine (eqZ_any _ _ lB hn1B _ (F119.out.at.wide (by omega)) (F122.out.at.wide (by omega))).mono ?_
  rintro e w123 ⟨rfl, hb124⟩
  have hsw123 : w113.heap.size ≤ w123.heap.size := hb124.size
  have F125 : Hid (Below w.heap.size w w123) := F115.out.trans (hb124.mono F115.out.size)
  have F126 : Hid (ZOwn w9.heap.size w19.heap.size w123 (.slice ra24 Q.length rc25) Q) := F116.out.same (Same.of_below hb124 (by omega))
  have F127 : Hid (ZOwn w9.heap.size w19.heap.size w123 (.slice ra28 R.length rc29) R) := F117.out.same (Same.of_below hb124 (by omega))
  have F128 : Hid (ZOwn w19.heap.size w35.heap.size w123 (.slice (some ⟨g33, 0, none⟩) lA.length lA.length) lA) := F118.out.same (Same.of_below hb124 (by omega))
  have F129 : Hid (ZOwn w35.heap.size w43.heap.size w123 (.slice (some ⟨g41, 0, none⟩) lB.length lB.length) lB) := F119.out.same (Same.of_below hb124 (by omega))
  have F130 : Hid (ZOwn w43.heap.size w55.heap.size w123 (.slice ra62 Q.length rc63) Q) := F120.out.same (Same.of_below hb124 (by omega))
  have F131 : Hid (ZOwn w43.heap.size w55.heap.size w123 (.slice ra66 R.length rc67) R) := F121.out.same (Same.of_below hb124 (by omega))
  have F132 : Hid (ZOwn w101.heap.size w113.heap.size w123 (.slice (some ⟨g111, 0, none⟩) lB.length lB.length) lB) := F122.out.same (Same.of_below hb124 (by omega))
  clear hb124 F115 F116 F117 F118 F119 F120 F121 F122
  clear F132
  go_wp2_with fail
  refine (markZo_any _ lA (1) _ _ (by omega) hn1A _ F128.out).mono ?_
  rintro e w133 ⟨rfl, hR134, hk135⟩
  have hsw133 : w123.heap.size ≤ w133.heap.size := hk135.size
  have F136 : Hid (Below w.heap.size w w133) := hk135.bel F125.out F125.out.size (fun k q => by have h3 := q.1; omega)
  have F137 : Hid (ZOwn w9.heap.size w19.heap.size w133 (.slice ra24 Q.length rc25) Q) := F126.out.same (Same.of_kps hk135 (by omega) (fun k h1 h2 q => by have h3 := q.1; have h4 := q.2; omega))
  have F138 : Hid (ZOwn w9.heap.size w19.heap.size w133 (.slice ra28 R.length rc29) R) := F127.out.same (Same.of_kps hk135 (by omega) (fun k h1 h2 q => by have h3 := q.1; have h4 := q.2; omega))
  have F139 : Hid (ZOwn w35.heap.size w43.heap.size w133 (.slice (some ⟨g41, 0, none⟩) lB.length lB.length) lB) := F129.out.same (Same.of_kps hk135 (by omega) (fun k h1 h2 q => by have h3 := q.1; have h4 := q.2; omega))
  have F140 : Hid (ZOwn w43.heap.size w55.heap.size w133 (.slice ra62 Q.length rc63) Q) := F130.out.same (Same.of_kps hk135 (by omega) (fun k h1 h2 q => by have h3 := q.1; have h4 := q.2; omega))
  have F141 : Hid (ZOwn w43.heap.size w55.heap.size w133 (.slice ra66 R.length rc67) R) := F131.out.same (Same.of_kps hk135 (by omega) (fun k h1 h2 q => by have h3 := q.1; have h4 := q.2; omega))
  clear hk135 F125 F126 F127 F129 F130 F131
  have F142 : Hid (ZOwn w19.heap.size w35.heap.size w133 (.slice (some ⟨g33, 0, none⟩) lA.length lA.length) (mkz (1) lA.length)) := hR134
  clear hR134 F128
  go_wp2_with fail
  refine (markZo_any _ lB (1 + lA.length) _ _ (by omega) hn1B _ F139.out).mono ?_
  rintro e w143 ⟨rfl, hR144, hk145⟩
  have hsw143 : w133.heap.size ≤ w143.heap.size := hk145.size
  have F146 : Hid (Below w.heap.size w w143) := hk145.bel F136.out F136.out.size (fun k q => by have h3 := q.1; omega)
  have F147 : Hid (ZOwn w9.heap.size w19.heap.size w143 (.slice ra24 Q.length rc25) Q) := F137.out.same (Same.of_kps hk145 (by omega) (fun k h1 h2 q => by have h3 := q.1; have h4 := q.2; omega))
  have F148 : Hid (ZOwn w9.heap.size w19.heap.size w143 (.slice ra28 R.length rc29) R) := F138.out.same (Same.of_kps hk145 (by omega) (fun k h1 h2 q => by have h3 := q.1; have h4 := q.2; omega))
  have F149 : Hid (ZOwn w19.heap.size w35.heap.size w143 (.slice (some ⟨g33, 0, none⟩) lA.length lA.length) (mkz (1) lA.length)) := F142.out.same (Same.of_kps hk145 (by omega) (fun k h1 h2 q => by have h3 := q.1; have h4 := q.2; omega))
  have F150 : Hid (ZOwn w43.heap.size w55.heap.size w143 (.slice ra62 Q.length rc63) Q) := F140.out.same (Same.of_kps hk145 (by omega) (fun k h1 h2 q => by have h3 := q.1; have h4 := q.2; omega))
  have F151 : Hid (ZOwn w43.heap.size w55.heap.size w143 (.slice ra66 R.length rc67) R) := F141.out.same (Same.of_kps hk145 (by omega) (fun k h1 h2 q => by have h3 := q.1; have h4 := q.2; omega))
  clear hk145 F136 F137 F138 F142 F140 F141
  have F152 : Hid (ZOwn w35.heap.size w43.heap.size w143 (.slice (some ⟨g41, 0, none⟩) lB.length lB.length) (mkz (1 + lA.length) lB.length)) := hR144
  clear hR144 F139
  have hkp : ¬ ((1 + lA.length + lB.length : Nat) : Int) < 0 := by omega
  clear F149
  clear F152
  go_wp2_with fail
  refine (eqZ_any _ _ Q hbdQ _ (F150.out.at.wide (by omega)) (F147.out.at.wide (by omega))).mono ?_
  rintro e w153 ⟨rfl, hb154⟩
  have hsw153 : w143.heap.size ≤ w153.heap.size := hb154.size
  have F155 : Hid (Below w.heap.size w w153) := F146.out.trans (hb154.mono F146.out.size)
  have F156 : Hid (ZOwn w9.heap.size w19.heap.size w153 (.slice ra24 Q.length rc25) Q) := F147.out.same (Same.of_below hb154 (by omega))
  have F157 : Hid (ZOwn w9.heap.size w19.heap.size w153 (.slice ra28 R.length rc29) R) := F148.out.same (Same.of_below hb154 (by omega))
  have F158 : Hid (ZOwn w43.heap.size w55.heap.size w153 (.slice ra62 Q.length rc63) Q) := F150.out.same (Same.of_below hb154 (by omega))
  have F159 : Hid (ZOwn w43.heap.size w55.heap.size w153 (.slice ra66 R.length rc67) R) := F151.out.same (Same.of_below hb154 (by omega))
  clear hb154 F146 F147 F148 F150 F151
  go_wp2_with fail
  refine (eqZ_any _ _ R hbdR _ (F159.out.at.wide (by omega)) (F157.out.at.wide (by omega))).mono ?_
  rintro e w160 ⟨rfl, hb161⟩
  have hsw160 : w153.heap.size ≤ w160.heap.size := hb161.size
  have F162 : Hid (Below w.heap.size w w160) := F155.out.trans (hb161.mono F155.out.size)
  have F163 : Hid (ZOwn w9.heap.size w19.heap.size w160 (.slice ra24 Q.length rc25) Q) := F156.out.same (Same.of_below hb161 (by omega))
  have F164 : Hid (ZOwn w9.heap.size w19.heap.size w160 (.slice ra28 R.length rc29) R) := F157.out.same (Same.of_below hb161 (by omega))
  have F165 : Hid (ZOwn w43.heap.size w55.heap.size w160 (.slice ra62 Q.length rc63) Q) := F158.out.same (Same.of_below hb161 (by omega))
  have F166 : Hid (ZOwn w43.heap.size w55.heap.size w160 (.slice ra66 R.length rc67) R) := F159.out.same (Same.of_below hb161 (by omega))
  clear hb161 F155 F156 F157 F158 F159
  have hin170 := F165.out.in
  go_wp2_with fail
  refine (markZ_any _ Q (1) _ (by omega) hbdQ _ F165.out.1).mono ?_
  rintro e w167 ⟨rfl, hR168, hk169⟩
  have hsw167 : w160.heap.size ≤ w167.heap.size := hk169.size
  have F171 : Hid (Below w.heap.size w w167) := hk169.bel F162.out F162.out.size (fun k q => by have h3 := (hin170 _ q).1; omega)
  have F172 : Hid (ZOwn w9.heap.size w19.heap.size w167 (.slice ra24 Q.length rc25) Q) := F163.out.same (Same.of_kps hk169 (by omega) (fun k h1 h2 q => by have h3 := (hin170 _ q).1; have h4 := (hin170 _ q).2; omega))
  have F173 : Hid (ZOwn w9.heap.size w19.heap.size w167 (.slice ra28 R.length rc29) R) := F164.out.same (Same.of_kps hk169 (by omega) (fun k h1 h2 q => by have h3 := (hin170 _ q).1; have h4 := (hin170 _ q).2; omega))
  have F174 : Hid (ZOwn w43.heap.size w55.heap.size w167 (.slice ra66 R.length rc67) R) := ⟨hk169.row F166.out.1 (fun k h1 q => HD70.out k q h1), F166.out.2⟩
  clear hk169 F162 F163 F164 F166
  have hR168' := And.intro hR168 F165.out.2
  clear hin170
  have F175 : Hid (ZOwn w43.heap.size w55.heap.size w167 (.slice ra62 Q.length rc63) (mkz (1) Q.length)) := hR168'
  clear hR168' F165
  have hin179 := F174.out.in
  go_wp2_with fail
  refine (markZ_any _ R (1 + Q.length) _ (by omega) hbdR _ F174.out.1).mono ?_
  rintro e w176 ⟨rfl, hR177, hk178⟩
  have hsw176 : w167.heap.size ≤ w176.heap.size := hk178.size
  have F180 : Hid (Below w.heap.size w w176) := hk178.bel F171.out F171.out.size (fun k q => by have h3 := (hin179 _ q).1; omega)
  have F181 : Hid (ZOwn w9.heap.size w19.heap.size w176 (.slice ra24 Q.length rc25) Q) := F172.out.same (Same.of_kps hk178 (by omega) (fun k h1 h2 q => by have h3 := (hin179 _ q).1; have h4 := (hin179 _ q).2; omega))
  have F182 : Hid (ZOwn w9.heap.size w19.heap.size w176 (.slice ra28 R.length rc29) R) := F173.out.same (Same.of_kps hk178 (by omega) (fun k h1 h2 q => by have h3 := (hin179 _ q).1; have h4 := (hin179 _ q).2; omega))
  have F183 : Hid (ZOwn w43.heap.size w55.heap.size w176 (.slice ra62 Q.length rc63) (mkz (1) Q.length)) := ⟨hk178.row F175.out.1 (fun k h1 q => HD70.out k h1 q), F175.out.2⟩
  clear hk178 F171 F172 F173 F175
  have hR177' := And.intro hR177 F174.out.2
  clear hin179
  have F184 : Hid (ZOwn w43.heap.size w55.heap.size w176 (.slice ra66 R.length rc67) (mkz (1 + Q.length) R.length)) := hR177'
  clear hR177' F174
  have hkm : ¬ ((1 + Q.length + R.length : Nat) : Int) < 0 := by omega
  go_wp2_with fail
  refine (heldZo_any _ Q.length (1) _ _ (by omega) hbdQ _ F183.out).mono ?_
  rintro e w185 ⟨rfl, hb186⟩
  have hsw185 : w176.heap.size ≤ w185.heap.size := hb186.size
  have F187 : Hid (Below w.heap.size w w185) := F180.out.trans (hb186.mono F180.out.size)
  have F188 : Hid (ZOwn w9.heap.size w19.heap.size w185 (.slice ra24 Q.length rc25) Q) := F181.out.same (Same.of_below hb186 (by omega))
  have F189 : Hid (ZOwn w9.heap.size w19.heap.size w185 (.slice ra28 R.length rc29) R) := F182.out.same (Same.of_below hb186 (by omega))
  have F190 : Hid (ZOwn w43.heap.size w55.heap.size w185 (.slice ra62 Q.length rc63) (mkz (1) Q.length)) := F183.out.same (Same.of_below hb186 (by omega))
  have F191 : Hid (ZOwn w43.heap.size w55.heap.size w185 (.slice ra66 R.length rc67) (mkz (1 + Q.length) R.length)) := F184.out.same (Same.of_below hb186 (by omega))
  clear hb186 F180 F181 F182 F183 F184
  have hkh192 : ¬ ((1 + Q.length : Nat) : Int) < 0 := by omega
  go_wp2_with fail
  refine (heldZo_any _ R.length (1 + Q.length) _ _ (by omega) hbdR _ F191.out).mono ?_
  rintro e w193 ⟨rfl, hb194⟩
  have hsw193 : w185.heap.size ≤ w193.heap.size := hb194.size
  have F195 : Hid (Below w.heap.size w w193) := F187.out.trans (hb194.mono F187.out.size)
  have F196 : Hid (ZOwn w9.heap.size w19.heap.size w193 (.slice ra24 Q.length rc25) Q) := F188.out.same (Same.of_below hb194 (by omega))
  have F197 : Hid (ZOwn w9.heap.size w19.heap.size w193 (.slice ra28 R.length rc29) R) := F189.out.same (Same.of_below hb194 (by omega))
  have F198 : Hid (ZOwn w43.heap.size w55.heap.size w193 (.slice ra62 Q.length rc63) (mkz (1) Q.length)) := F190.out.same (Same.of_below hb194 (by omega))
  have F199 : Hid (ZOwn w43.heap.size w55.heap.size w193 (.slice ra66 R.length rc67) (mkz (1 + Q.length) R.length)) := F191.out.same (Same.of_below hb194 (by omega))
  clear hb194 F187 F188 F189 F190 F191
  go_wp2_with fail
  refine (toZ_any _ lA hn1A _ ((HAA.out.on F195.out).wide F195.out.size)).mono ?_
  rintro e w202 ⟨g200, rfl, hO201, hb203⟩
  have hsw202 : w193.heap.size ≤ w202.heap.size := hb203.size
  have F204 : Hid (Below w.heap.size w w202) := F195.out.trans (hb203.mono F195.out.size)
  have F205 : Hid (ZOwn w9.heap.size w19.heap.size w202 (.slice ra24 Q.length rc25) Q) := F196.out.same (Same.of_below hb203 (by omega))
  have F206 : Hid (ZOwn w9.heap.size w19.heap.size w202 (.slice ra28 R.length rc29) R) := F197.out.same (Same.of_below hb203 (by omega))
  have F207 : Hid (ZOwn w43.heap.size w55.heap.size w202 (.slice ra62 Q.length rc63) (mkz (1) Q.length)) := F198.out.same (Same.of_below hb203 (by omega))
  have F208 : Hid (ZOwn w43.heap.size w55.heap.size w202 (.slice ra66 R.length rc67) (mkz (1 + Q.length) R.length)) := F199.out.same (Same.of_below hb203 (by omega))
  clear hb203 F195 F196 F197 F198 F199
  have F209 : Hid (ZOwn w193.heap.size w202.heap.size w202 (.slice (some ⟨g200, 0, none⟩) lA.length lA.length) lA) := hO201
  clear hO201
  go_wp2_with fail
  refine (toZ_any _ lB hn1B _ ((HAB.out.on F204.out).wide F204.out.size)).mono ?_
  rintro e w212 ⟨g210, rfl, hO211, hb213⟩
  have hsw212 : w202.heap.size ≤ w212.heap.size := hb213.size
  have F214 : Hid (Below w.heap.size w w212) := F204.out.trans (hb213.mono F204.out.size)
  have F215 : Hid (ZOwn w9.heap.size w19.heap.size w212 (.slice ra24 Q.length rc25) Q) := F205.out.same (Same.of_below hb213 (by omega))
  have F216 : Hid (ZOwn w9.heap.size w19.heap.size w212 (.slice ra28 R.length rc29) R) := F206.out.same (Same.of_below hb213 (by omega))
  have F217 : Hid (ZOwn w43.heap.size w55.heap.size w212 (.slice ra62 Q.length rc63) (mkz (1) Q.length)) := F207.out.same (Same.of_below hb213 (by omega))
  have F218 : Hid (ZOwn w43.heap.size w55.heap.size w212 (.slice ra66 R.length rc67) (mkz (1 + Q.length) R.length)) := F208.out.same (Same.of_below hb213 (by omega))
  have F219 : Hid (ZOwn w193.heap.size w202.heap.size w212 (.slice (some ⟨g200, 0, none⟩) lA.length lA.length) lA) := F209.out.same (Same.of_below hb213 (by omega))
  clear hb213 F204 F205 F206 F207 F208 F209
  have F220 : Hid (ZOwn w202.heap.size w212.heap.size w212 (.slice (some ⟨g210, 0, none⟩) lB.length lB.length) lB) := hO211
  clear hO211
  go_wp2_with fail
  refine (HQ1.out _  _ _ (F219.out.at.wide (by omega)) (F220.out.at.wide (by omega))).mono ?_
  rintro e w226 ⟨v221, v223, rfl, hO222, hO224, hD225, hb227⟩
  have hsw226 : w212.heap.size ≤ w226.heap.size := hb227.size
  have F228 : Hid (Below w.heap.size w w226) := F214.out.trans (hb227.mono F214.out.size)
  have F229 : Hid (ZOwn w9.heap.size w19.heap.size w226 (.slice ra24 Q.length rc25) Q) := F215.out.same (Same.of_below hb227 (by omega))
  have F230 : Hid (ZOwn w9.heap.size w19.heap.size w226 (.slice ra28 R.length rc29) R) := F216.out.same (Same.of_below hb227 (by omega))
  have F231 : Hid (ZOwn w43.heap.size w55.heap.size w226 (.slice ra62 Q.length rc63) (mkz (1) Q.length)) := F217.out.same (Same.of_below hb227 (by omega))
  have F232 : Hid (ZOwn w43.heap.size w55.heap.size w226 (.slice ra66 R.length rc67) (mkz (1 + Q.length) R.length)) := F218.out.same (Same.of_below hb227 (by omega))
  have F233 : Hid (ZOwn w193.heap.size w202.heap.size w226 (.slice (some ⟨g200, 0, none⟩) lA.length lA.length) lA) := F219.out.same (Same.of_below hb227 (by omega))
  have F234 : Hid (ZOwn w202.heap.size w212.heap.size w226 (.slice (some ⟨g210, 0, none⟩) lB.length lB.length) lB) := F220.out.same (Same.of_below hb227 (by omega))
  clear hb227 F214 F215 F216 F217 F218 F219 F220
  obtain ⟨ra235, rc236, hv237⟩ := row_form hO222.1
  subst hv237
  have F238 : Hid (ZOwn w212.heap.size w226.heap.size w226 (.slice ra235 Q.length rc236) Q) := hO222
  clear hO222
  obtain ⟨ra239, rc240, hv241⟩ := row_form hO224.1
  subst hv241
  have F242 : Hid (ZOwn w212.heap.size w226.heap.size w226 (.slice ra239 R.length rc240) R) := hO224
  clear hO224
  have HD243 : Hid (∀ g, (Value.slice ra235 Q.length rc236).ownBlock = some g → (Value.slice ra239 R.length rc240).ownBlock ≠ some g) := hD225
  clear hD225
  clear HQ1
  clear F233 F234
  go_wp2_with fail
  refine (eqZ_any _ _ Q hbdQ _ (F238.out.at.wide (by omega)) (F229.out.at.wide (by omega))).mono ?_
  rintro e w244 ⟨rfl, hb245⟩
  have hsw244 : w226.heap.size ≤ w244.heap.size := hb245.size
  have F246 : Hid (Below w.heap.size w w244) := F228.out.trans (hb245.mono F228.out.size)
  have F247 : Hid (ZOwn w9.heap.size w19.heap.size w244 (.slice ra24 Q.length rc25) Q) := F229.out.same (Same.of_below hb245 (by omega))
  have F248 : Hid (ZOwn w9.heap.size w19.heap.size w244 (.slice ra28 R.length rc29) R) := F230.out.same (Same.of_below hb245 (by omega))
  have F249 : Hid (ZOwn w43.heap.size w55.heap.size w244 (.slice ra62 Q.length rc63) (mkz (1) Q.length)) := F231.out.same (Same.of_below hb245 (by omega))
  have F250 : Hid (ZOwn w43.heap.size w55.heap.size w244 (.slice ra66 R.length rc67) (mkz (1 + Q.length) R.length)) := F232.out.same (Same.of_below hb245 (by omega))
  have F251 : Hid (ZOwn w212.heap.size w226.heap.size w244 (.slice ra235 Q.length rc236) Q) := F238.out.same (Same.of_below hb245 (by omega))
  have F252 : Hid (ZOwn w212.heap.size w226.heap.size w244 (.slice ra239 R.length rc240) R) := F242.out.same (Same.of_below hb245 (by omega))
  clear hb245 F228 F229 F230 F231 F232 F238 F242
  go_wp2_with fail
  refine (eqZ_any _ _ R hbdR _ (F252.out.at.wide (by omega)) (F248.out.at.wide (by omega))).mono ?_
  rintro e w253 ⟨rfl, hb254⟩
  have hsw253 : w244.heap.size ≤ w253.heap.size := hb254.size
  have F255 : Hid (Below w.heap.size w w253) := F246.out.trans (hb254.mono F246.out.size)
  have F256 : Hid (ZOwn w9.heap.size w19.heap.size w253 (.slice ra24 Q.length rc25) Q) := F247.out.same (Same.of_below hb254 (by omega))
  have F257 : Hid (ZOwn w9.heap.size w19.heap.size w253 (.slice ra28 R.length rc29) R) := F248.out.same (Same.of_below hb254 (by omega))
  have F258 : Hid (ZOwn w43.heap.size w55.heap.size w253 (.slice ra62 Q.length rc63) (mkz (1) Q.length)) := F249.out.same (Same.of_below hb254 (by omega))
  have F259 : Hid (ZOwn w43.heap.size w55.heap.size w253 (.slice ra66 R.length rc67) (mkz (1 + Q.length) R.length)) := F250.out.same (Same.of_below hb254 (by omega))
  have F260 : Hid (ZOwn w212.heap.size w226.heap.size w253 (.slice ra235 Q.length rc236) Q) := F251.out.same (Same.of_below hb254 (by omega))
  have F261 : Hid (ZOwn w212.heap.size w226.heap.size w253 (.slice ra239 R.length rc240) R) := F252.out.same (Same.of_below hb254 (by omega))
  clear hb254 F246 F247 F248 F249 F250 F251 F252
  go_wp2_with fail
  refine (heldZo_any _ Q.length (1) _ _ (by omega) hbdQ _ F258.out).mono ?_
  rintro e w262 ⟨rfl, hb263⟩
  have hsw262 : w253.heap.size ≤ w262.heap.size := hb263.size
  have F264 : Hid (Below w.heap.size w w262) := F255.out.trans (hb263.mono F255.out.size)
  have F265 : Hid (ZOwn w9.heap.size w19.heap.size w262 (.slice ra24 Q.length rc25) Q) := F256.out.same (Same.of_below hb263 (by omega))
  have F266 : Hid (ZOwn w9.heap.size w19.heap.size w262 (.slice ra28 R.length rc29) R) := F257.out.same (Same.of_below hb263 (by omega))
  have F267 : Hid (ZOwn w43.heap.size w55.heap.size w262 (.slice ra62 Q.length rc63) (mkz (1) Q.length)) := F258.out.same (Same.of_below hb263 (by omega))
  have F268 : Hid (ZOwn w43.heap.size w55.heap.size w262 (.slice ra66 R.length rc67) (mkz (1 + Q.length) R.length)) := F259.out.same (Same.of_below hb263 (by omega))
  have F269 : Hid (ZOwn w212.heap.size w226.heap.size w262 (.slice ra235 Q.length rc236) Q) := F260.out.same (Same.of_below hb263 (by omega))
  have F270 : Hid (ZOwn w212.heap.size w226.heap.size w262 (.slice ra239 R.length rc240) R) := F261.out.same (Same.of_below hb263 (by omega))
  clear hb263 F255 F256 F257 F258 F259 F260 F261
  have hkh271 : ¬ ((1 + Q.length : Nat) : Int) < 0 := by omega
  go_wp2_with fail
  refine (heldZo_any _ R.length (1 + Q.length) _ _ (by omega) hbdR _ F268.out).mono ?_
  rintro e w272 ⟨rfl, hb273⟩
  have hsw272 : w262.heap.size ≤ w272.heap.size := hb273.size
  have F274 : Hid (Below w.heap.size w w272) := F264.out.trans (hb273.mono F264.out.size)
  have F275 : Hid (ZOwn w9.heap.size w19.heap.size w272 (.slice ra24 Q.length rc25) Q) := F265.out.same (Same.of_below hb273 (by omega))
  have F276 : Hid (ZOwn w9.heap.size w19.heap.size w272 (.slice ra28 R.length rc29) R) := F266.out.same (Same.of_below hb273 (by omega))
  have F277 : Hid (ZOwn w43.heap.size w55.heap.size w272 (.slice ra62 Q.length rc63) (mkz (1) Q.length)) := F267.out.same (Same.of_below hb273 (by omega))
  have F278 : Hid (ZOwn w43.heap.size w55.heap.size w272 (.slice ra66 R.length rc67) (mkz (1 + Q.length) R.length)) := F268.out.same (Same.of_below hb273 (by omega))
  have F279 : Hid (ZOwn w212.heap.size w226.heap.size w272 (.slice ra235 Q.length rc236) Q) := F269.out.same (Same.of_below hb273 (by omega))
  have F280 : Hid (ZOwn w212.heap.size w226.heap.size w272 (.slice ra239 R.length rc240) R) := F270.out.same (Same.of_below hb273 (by omega))
  clear hb273 F264 F265 F266 F267 F268 F269 F270
  go_wp2
  go_ret
  exact ⟨rfl, F274.out⟩


end Go.Proofs.Ytfiflcedbejamab
