/-
  The walks of the exact laws of paths by halves.
  (-DROP-: what the seat lacks is left out.)
-/
import Derived.Test.YtengnjffajimdaaNibI3
import Derived.Test.YtengnjffajimdaaIntsArg
import Derived.Test.YtengnjffajimdaaExZ
namespace Go.Proofs.Ytengnjffajimdaa
open Go.RowKit

theorem nib_of {P : Program} {f : Nat} {av : Array Value} {w : World} {l : List Int} (h : Calls P f av w fun e w' => ∃ g c, e = .returned (.slice (some ⟨g, 0, none⟩) l.length c) ∧ ZOwn w.heap.size w'.heap.size w' (.slice (some ⟨g, 0, none⟩) l.length c) l ∧ Below w.heap.size w w') :
    Calls P f av w fun e w' => ∃ v, e = .returned v ∧ ZOwn w.heap.size w'.heap.size w' v l ∧ Below w.heap.size w w' :=
  h.mono fun _ _ ⟨_, _, h⟩ => ⟨_, h⟩
theorem bel_of {P : Program} {f : Nat} {av : Array Value} {w : World} {v : Value} (h : Calls P f av w fun e w' => e = .returned v ∧ w = w') :
    Calls P f av w fun e w' => e = .returned v ∧ Below w.heap.size w w' :=
  h.mono fun _ _ h => ⟨h.1, h.2 ▸ Below.refl _ _⟩
theorem nibs_len (t : ByteArray) (h : t.size ≤ 1048576) : (nibs t).length ≤ 4194304 := by
  unfold nibs
  rw [nibL_length, Array.length_toList]
  have e : t.data.size = t.size := rfl
  omega

set_option maxHeartbeats 6400000 in
set_option maxRecDepth 100000 in
theorem lawNibblesOf (T : ByteArray) (hsT : T.size ≤ 9223372036854775807) (w : World) :
    Calls Try.prog 4 #[.string T] w fun e w' => e = .returned (.bool true) ∧ Below w.heap.size w w' := by
  by_cases hbT : 1048576 < T.size
  · have hbT' : (1048576 : Int) < (T.size : Int) := by omega
    go_enter Try.func4, Try.ntmps4
    go_wp2
    go_ret
    exact ⟨rfl, Below.refl _ _⟩
  have hbT' : ¬ (1048576 : Int) < (T.size : Int) := by omega
  have htT : T.size ≤ 1048576 := by omega
  have HB0 : Hid (Below w.heap.size w w) := Below.refl _ _
  obtain ⟨R, hbd0, hq1, hq2⟩ : ∃ (R : List Int) , (R.length ≤ 4194304) ∧ (∀ w, Calls Try.prog 17 #[.string T] w fun e w' => ∃ vR, e = .returned (vR) ∧ ZOwn w.heap.size w'.heap.size w' vR R ∧ Below w.heap.size w w') ∧ (∀ w, Calls Try.prog 21 #[.string T] w fun e w' => ∃ vR, e = .returned (vR) ∧ ZOwn w.heap.size w'.heap.size w' vR R ∧ Below w.heap.size w w') := ⟨_, nibs_len T htT, fun w => (nib_of (iNib_any T htT w)), fun w => (nib_of (sNib_any T htT w))⟩
  have HQ1 : Hid _ := hq1
  have HQ2 : Hid _ := hq2
  clear hq1 hq2
  go_enter Try.func4, Try.ntmps4
  go_wp2_with fail
  refine (HQ2.out _ ).mono ?_
  rintro e w3 ⟨v1, rfl, hO2, hb4⟩
  have hsw3 : w.heap.size ≤ w3.heap.size := hb4.size
  have F5 : Hid (Below w.heap.size w w3) := HB0.out.trans (hb4.mono HB0.out.size)
  clear hb4 HB0
  obtain ⟨ra6, rc7, hv8⟩ := row_form hO2.1
  subst hv8
  have F9 : Hid (ZOwn w.heap.size w3.heap.size w3 (.slice ra6 R.length rc7) R) := hO2
  clear hO2
  clear HQ2
  go_wp2_with fail
  refine (HQ1.out _ ).mono ?_
  rintro e w12 ⟨v10, rfl, hO11, hb13⟩
  have hsw12 : w3.heap.size ≤ w12.heap.size := hb13.size
  have F14 : Hid (Below w.heap.size w w12) := F5.out.trans (hb13.mono F5.out.size)
  have F15 : Hid (ZOwn w.heap.size w3.heap.size w12 (.slice ra6 R.length rc7) R) := F9.out.same (Same.of_below hb13 (by omega))
  clear hb13 F5 F9
  obtain ⟨ra16, rc17, hv18⟩ := row_form hO11.1
  subst hv18
  have F19 : Hid (ZOwn w3.heap.size w12.heap.size w12 (.slice ra16 R.length rc17) R) := hO11
  clear hO11
  have hbdR := hbd0
  go_wp2_with fail
  refine (eqZW_any _ _ R hbdR _ (F19.out.at.wide (by omega)) (F15.out.at.wide (by omega))).mono ?_
  rintro e w20 ⟨rfl, hb21⟩
  have hsw20 : w12.heap.size ≤ w20.heap.size := hb21.size
  have F22 : Hid (Below w.heap.size w w20) := F14.out.trans (hb21.mono F14.out.size)
  have F23 : Hid (ZOwn w.heap.size w3.heap.size w20 (.slice ra6 R.length rc7) R) := F15.out.same (Same.of_below hb21 (by omega))
  have F24 : Hid (ZOwn w3.heap.size w12.heap.size w20 (.slice ra16 R.length rc17) R) := F19.out.same (Same.of_below hb21 (by omega))
  clear hb21 F14 F15 F19
  go_wp2_with fail
  refine (markZoW_any _ R (1) _ _ (by omega) hbdR _ F24.out).mono ?_
  rintro e w25 ⟨rfl, hR26, hk27⟩
  have hsw25 : w20.heap.size ≤ w25.heap.size := hk27.size
  have F28 : Hid (Below w.heap.size w w25) := hk27.bel F22.out F22.out.size (fun k q => by have h3 := q.1; omega)
  have F29 : Hid (ZOwn w.heap.size w3.heap.size w25 (.slice ra6 R.length rc7) R) := F23.out.same (Same.of_kps hk27 (by omega) (fun k h1 h2 q => by have h3 := q.1; have h4 := q.2; omega))
  clear hk27 F22 F23
  have F30 : Hid (ZOwn w3.heap.size w12.heap.size w25 (.slice ra16 R.length rc17) (mkz (1) R.length)) := hR26
  clear hR26 F24
  have hkm : ¬ ((1 + R.length : Nat) : Int) < 0 := by omega
  go_wp2_with fail
  refine (heldZoW_any _ R.length (1) _ _ (by omega) hbdR _ F30.out).mono ?_
  rintro e w31 ⟨rfl, hb32⟩
  have hsw31 : w25.heap.size ≤ w31.heap.size := hb32.size
  have F33 : Hid (Below w.heap.size w w31) := F28.out.trans (hb32.mono F28.out.size)
  have F34 : Hid (ZOwn w.heap.size w3.heap.size w31 (.slice ra6 R.length rc7) R) := F29.out.same (Same.of_below hb32 (by omega))
  have F35 : Hid (ZOwn w3.heap.size w12.heap.size w31 (.slice ra16 R.length rc17) (mkz (1) R.length)) := F30.out.same (Same.of_below hb32 (by omega))
  clear hb32 F28 F29 F30
  go_wp2_with fail
  refine (HQ1.out _ ).mono ?_
  rintro e w38 ⟨v36, rfl, hO37, hb39⟩
  have hsw38 : w31.heap.size ≤ w38.heap.size := hb39.size
  have F40 : Hid (Below w.heap.size w w38) := F33.out.trans (hb39.mono F33.out.size)
  have F41 : Hid (ZOwn w.heap.size w3.heap.size w38 (.slice ra6 R.length rc7) R) := F34.out.same (Same.of_below hb39 (by omega))
  have F42 : Hid (ZOwn w3.heap.size w12.heap.size w38 (.slice ra16 R.length rc17) (mkz (1) R.length)) := F35.out.same (Same.of_below hb39 (by omega))
  clear hb39 F33 F34 F35
  obtain ⟨ra43, rc44, hv45⟩ := row_form hO37.1
  subst hv45
  have F46 : Hid (ZOwn w31.heap.size w38.heap.size w38 (.slice ra43 R.length rc44) R) := hO37
  clear hO37
  clear HQ1
  go_wp2_with fail
  refine (eqZW_any _ _ R hbdR _ (F46.out.at.wide (by omega)) (F41.out.at.wide (by omega))).mono ?_
  rintro e w47 ⟨rfl, hb48⟩
  have hsw47 : w38.heap.size ≤ w47.heap.size := hb48.size
  have F49 : Hid (Below w.heap.size w w47) := F40.out.trans (hb48.mono F40.out.size)
  have F50 : Hid (ZOwn w.heap.size w3.heap.size w47 (.slice ra6 R.length rc7) R) := F41.out.same (Same.of_below hb48 (by omega))
  have F51 : Hid (ZOwn w3.heap.size w12.heap.size w47 (.slice ra16 R.length rc17) (mkz (1) R.length)) := F42.out.same (Same.of_below hb48 (by omega))
  have F52 : Hid (ZOwn w31.heap.size w38.heap.size w47 (.slice ra43 R.length rc44) R) := F46.out.same (Same.of_below hb48 (by omega))
  clear hb48 F40 F41 F42 F46
  go_wp2_with fail
  refine (heldZoW_any _ R.length (1) _ _ (by omega) hbdR _ F51.out).mono ?_
  rintro e w53 ⟨rfl, hb54⟩
  have hsw53 : w47.heap.size ≤ w53.heap.size := hb54.size
  have F55 : Hid (Below w.heap.size w w53) := F49.out.trans (hb54.mono F49.out.size)
  have F56 : Hid (ZOwn w.heap.size w3.heap.size w53 (.slice ra6 R.length rc7) R) := F50.out.same (Same.of_below hb54 (by omega))
  have F57 : Hid (ZOwn w3.heap.size w12.heap.size w53 (.slice ra16 R.length rc17) (mkz (1) R.length)) := F51.out.same (Same.of_below hb54 (by omega))
  have F58 : Hid (ZOwn w31.heap.size w38.heap.size w53 (.slice ra43 R.length rc44) R) := F52.out.same (Same.of_below hb54 (by omega))
  clear hb54 F49 F50 F51 F52
  go_wp2
  go_ret
  exact ⟨rfl, F55.out⟩

set_option maxHeartbeats 6400000 in
set_option maxRecDepth 100000 in
theorem lawNibblesOk (aA : Option Addr) (nA cA : Nat) (hnA : nA ≤ 9223372036854775807) (fA : Nat → Int) (w : World) (hAA : IntsAt w aA nA w.heap.size fA) :
    Calls Try.prog 5 #[.slice aA nA cA] w fun e w' => e = .returned (.bool true) ∧ Below w.heap.size w w' := by
  obtain ⟨lA, hlA⟩ : ∃ l, l = zls fA nA := ⟨_, rfl⟩
  have hllA : Hid (lA.length = nA) := by rw [hlA]; exact zls_length _ _
  have HAA : Hid (ZAt w w.heap.size (.slice aA nA cA) lA) := by rw [hlA]; exact ZAt.of hAA
  clear hlA hAA
  by_cases hbA : 1048576 < nA
  · have hbA' : (1048576 : Int) < (nA : Int) := by omega
    go_enter Try.func5, Try.ntmps5
    go_wp2
    go_ret
    exact ⟨rfl, Below.refl _ _⟩
  have hbA' : ¬ (1048576 : Int) < (nA : Int) := by omega
  have hn1A : lA.length ≤ 1048576 := by have := hllA.out; omega
  have HB0 : Hid (Below w.heap.size w w) := Below.refl _ _
  obtain ⟨R, hq1, hq2⟩ : ∃ (R : Bool) , (∀ vA w, ZAt w w.heap.size vA lA → Calls Try.prog 19 #[vA] w fun e w' => e = .returned (.bool R) ∧ Below w.heap.size w w') ∧ (∀ vA w, ZAt w w.heap.size vA lA → Calls Try.prog 18 #[vA] w fun e w' => e = .returned (.bool R) ∧ Below w.heap.size w w') := ⟨_, fun vA w hA => (bel_of (iNibOk_any vA lA hn1A w hA)), fun vA w hA => (bel_of (sNibOk_any vA lA hn1A w hA))⟩
  have HQ1 : Hid _ := hq1
  have HQ2 : Hid _ := hq2
  clear hq1 hq2
  go_enter Try.func5, Try.ntmps5
  go_wp2_with fail
  refine (toZ_any _ lA hn1A _ ((HAA.out.on HB0.out).wide HB0.out.size)).mono ?_
  rintro e w3 ⟨g1, rfl, hO2, hb4⟩
  have hsw3 : w.heap.size ≤ w3.heap.size := hb4.size
  have F5 : Hid (Below w.heap.size w w3) := HB0.out.trans (hb4.mono HB0.out.size)
  clear hb4 HB0
  have F6 : Hid (ZOwn w.heap.size w3.heap.size w3 (.slice (some ⟨g1, 0, none⟩) lA.length lA.length) lA) := hO2
  clear hO2
  go_wp2_with fail
  refine (HQ2.out _ _ (F6.out.at.wide (by omega))).mono ?_
  rintro e w7 ⟨rfl, hb8⟩
  have hsw7 : w3.heap.size ≤ w7.heap.size := hb8.size
  have F9 : Hid (Below w.heap.size w w7) := F5.out.trans (hb8.mono F5.out.size)
  have F10 : Hid (ZOwn w.heap.size w3.heap.size w7 (.slice (some ⟨g1, 0, none⟩) lA.length lA.length) lA) := F6.out.same (Same.of_below hb8 (by omega))
  clear hb8 F5 F6
  clear HQ2
  clear F10
  go_wp2_with fail
  refine (toZ_any _ lA hn1A _ ((HAA.out.on F9.out).wide F9.out.size)).mono ?_
  rintro e w13 ⟨g11, rfl, hO12, hb14⟩
  have hsw13 : w7.heap.size ≤ w13.heap.size := hb14.size
  have F15 : Hid (Below w.heap.size w w13) := F9.out.trans (hb14.mono F9.out.size)
  clear hb14 F9
  have F16 : Hid (ZOwn w7.heap.size w13.heap.size w13 (.slice (some ⟨g11, 0, none⟩) lA.length lA.length) lA) := hO12
  clear hO12
  go_wp2_with fail
  refine (HQ1.out _ _ (F16.out.at.wide (by omega))).mono ?_
  rintro e w17 ⟨rfl, hb18⟩
  have hsw17 : w13.heap.size ≤ w17.heap.size := hb18.size
  have F19 : Hid (Below w.heap.size w w17) := F15.out.trans (hb18.mono F15.out.size)
  have F20 : Hid (ZOwn w7.heap.size w13.heap.size w17 (.slice (some ⟨g11, 0, none⟩) lA.length lA.length) lA) := F16.out.same (Same.of_below hb18 (by omega))
  clear hb18 F15 F16
  go_wp2_with fail
  refine (toZ_any _ lA hn1A _ ((HAA.out.on F19.out).wide F19.out.size)).mono ?_
  rintro e w23 ⟨g21, rfl, hO22, hb24⟩
  have hsw23 : w17.heap.size ≤ w23.heap.size := hb24.size
  have F25 : Hid (Below w.heap.size w w23) := F19.out.trans (hb24.mono F19.out.size)
  have F26 : Hid (ZOwn w7.heap.size w13.heap.size w23 (.slice (some ⟨g11, 0, none⟩) lA.length lA.length) lA) := F20.out.same (Same.of_below hb24 (by omega))
  clear hb24 F19 F20
  have F27 : Hid (ZOwn w17.heap.size w23.heap.size w23 (.slice (some ⟨g21, 0, none⟩) lA.length lA.length) lA) := hO22
  clear hO22
  go_wp2_with fail
  refine (eqZ_any _ _ lA hn1A _ (F26.out.at.wide (by omega)) (F27.out.at.wide (by omega))).mono ?_
  rintro e w28 ⟨rfl, hb29⟩
  have hsw28 : w23.heap.size ≤ w28.heap.size := hb29.size
  have F30 : Hid (Below w.heap.size w w28) := F25.out.trans (hb29.mono F25.out.size)
  have F31 : Hid (ZOwn w7.heap.size w13.heap.size w28 (.slice (some ⟨g11, 0, none⟩) lA.length lA.length) lA) := F26.out.same (Same.of_below hb29 (by omega))
  have F32 : Hid (ZOwn w17.heap.size w23.heap.size w28 (.slice (some ⟨g21, 0, none⟩) lA.length lA.length) lA) := F27.out.same (Same.of_below hb29 (by omega))
  clear hb29 F25 F26 F27
  clear F32
  go_wp2
  go_ret
  exact ⟨rfl, F30.out⟩

set_option maxHeartbeats 6400000 in
set_option maxRecDepth 100000 in
theorem lawCommon (aA : Option Addr) (nA cA : Nat) (aB : Option Addr) (nB cB : Nat) (hnA : nA ≤ 9223372036854775807) (hnB : nB ≤ 9223372036854775807) (fA : Nat → Int) (fB : Nat → Int) (w : World) (hAA : IntsAt w aA nA w.heap.size fA) (hAB : IntsAt w aB nB w.heap.size fB) :
    Calls Try.prog 8 #[.slice aA nA cA, .slice aB nB cB] w fun e w' => e = .returned (.bool true) ∧ Below w.heap.size w w' := by
  obtain ⟨lA, hlA⟩ : ∃ l, l = zls fA nA := ⟨_, rfl⟩
  have hllA : Hid (lA.length = nA) := by rw [hlA]; exact zls_length _ _
  have HAA : Hid (ZAt w w.heap.size (.slice aA nA cA) lA) := by rw [hlA]; exact ZAt.of hAA
  clear hlA hAA
  obtain ⟨lB, hlB⟩ : ∃ l, l = zls fB nB := ⟨_, rfl⟩
  have hllB : Hid (lB.length = nB) := by rw [hlB]; exact zls_length _ _
  have HAB : Hid (ZAt w w.heap.size (.slice aB nB cB) lB) := by rw [hlB]; exact ZAt.of hAB
  clear hlB hAB
  by_cases hbA : 1048576 < nA
  · have hbA' : (1048576 : Int) < (nA : Int) := by omega
    go_enter Try.func8, Try.ntmps8
    go_wp2
    go_ret
    exact ⟨rfl, Below.refl _ _⟩
  have hbA' : ¬ (1048576 : Int) < (nA : Int) := by omega
  have hn1A : lA.length ≤ 1048576 := by have := hllA.out; omega
  by_cases hbB : 1048576 < nB
  · have hbB' : (1048576 : Int) < (nB : Int) := by omega
    go_enter Try.func8, Try.ntmps8
    go_wp2
    go_ret
    exact ⟨rfl, Below.refl _ _⟩
  have hbB' : ¬ (1048576 : Int) < (nB : Int) := by omega
  have hn1B : lB.length ≤ 1048576 := by have := hllB.out; omega
  have HB0 : Hid (Below w.heap.size w w) := Below.refl _ _
  obtain ⟨R, hq1, hq2⟩ : ∃ (R : Int) , (∀ vA vB w, ZAt w w.heap.size vA lA → ZAt w w.heap.size vB lB → Calls Try.prog 22 #[vA, vB] w fun e w' => e = .returned (.int .i64 R) ∧ Below w.heap.size w w') ∧ (∀ vA vB w, ZAt w w.heap.size vA lA → ZAt w w.heap.size vB lB → Calls Try.prog 23 #[vA, vB] w fun e w' => e = .returned (.int .i64 R) ∧ Below w.heap.size w w') := ⟨_, fun vA vB w hA hB => (iCommon_any vA vB lA lB hn1A hn1B w hA hB), fun vA vB w hA hB => (sCommon_any vA vB lA lB hn1A hn1B w hA hB)⟩
  have HQ1 : Hid _ := hq1
  have HQ2 : Hid _ := hq2
  clear hq1 hq2
  go_enter Try.func8, Try.ntmps8
  go_wp2_with fail
  refine (toZ_any _ lA hn1A _ ((HAA.out.on HB0.out).wide HB0.out.size)).mono ?_
  rintro e w3 ⟨g1, rfl, hO2, hb4⟩
  have hsw3 : w.heap.size ≤ w3.heap.size := hb4.size
  have F5 : Hid (Below w.heap.size w w3) := HB0.out.trans (hb4.mono HB0.out.size)
  clear hb4 HB0
  have F6 : Hid (ZOwn w.heap.size w3.heap.size w3 (.slice (some ⟨g1, 0, none⟩) lA.length lA.length) lA) := hO2
  clear hO2
  go_wp2_with fail
  refine (toZ_any _ lB hn1B _ ((HAB.out.on F5.out).wide F5.out.size)).mono ?_
  rintro e w9 ⟨g7, rfl, hO8, hb10⟩
  have hsw9 : w3.heap.size ≤ w9.heap.size := hb10.size
  have F11 : Hid (Below w.heap.size w w9) := F5.out.trans (hb10.mono F5.out.size)
  have F12 : Hid (ZOwn w.heap.size w3.heap.size w9 (.slice (some ⟨g1, 0, none⟩) lA.length lA.length) lA) := F6.out.same (Same.of_below hb10 (by omega))
  clear hb10 F5 F6
  have F13 : Hid (ZOwn w3.heap.size w9.heap.size w9 (.slice (some ⟨g7, 0, none⟩) lB.length lB.length) lB) := hO8
  clear hO8
  go_wp2_with fail
  refine (HQ2.out _  _ _ (F12.out.at.wide (by omega)) (F13.out.at.wide (by omega))).mono ?_
  rintro e w14 ⟨rfl, hb15⟩
  have hsw14 : w9.heap.size ≤ w14.heap.size := hb15.size
  have F16 : Hid (Below w.heap.size w w14) := F11.out.trans (hb15.mono F11.out.size)
  have F17 : Hid (ZOwn w.heap.size w3.heap.size w14 (.slice (some ⟨g1, 0, none⟩) lA.length lA.length) lA) := F12.out.same (Same.of_below hb15 (by omega))
  have F18 : Hid (ZOwn w3.heap.size w9.heap.size w14 (.slice (some ⟨g7, 0, none⟩) lB.length lB.length) lB) := F13.out.same (Same.of_below hb15 (by omega))
  clear hb15 F11 F12 F13
  clear HQ2
  clear F17 F18
  go_wp2_with fail
  refine (toZ_any _ lA hn1A _ ((HAA.out.on F16.out).wide F16.out.size)).mono ?_
  rintro e w21 ⟨g19, rfl, hO20, hb22⟩
  have hsw21 : w14.heap.size ≤ w21.heap.size := hb22.size
  have F23 : Hid (Below w.heap.size w w21) := F16.out.trans (hb22.mono F16.out.size)
  clear hb22 F16
  have F24 : Hid (ZOwn w14.heap.size w21.heap.size w21 (.slice (some ⟨g19, 0, none⟩) lA.length lA.length) lA) := hO20
  clear hO20
  go_wp2_with fail
  refine (toZ_any _ lB hn1B _ ((HAB.out.on F23.out).wide F23.out.size)).mono ?_
  rintro e w27 ⟨g25, rfl, hO26, hb28⟩
  have hsw27 : w21.heap.size ≤ w27.heap.size := hb28.size
  have F29 : Hid (Below w.heap.size w w27) := F23.out.trans (hb28.mono F23.out.size)
  have F30 : Hid (ZOwn w14.heap.size w21.heap.size w27 (.slice (some ⟨g19, 0, none⟩) lA.length lA.length) lA) := F24.out.same (Same.of_below hb28 (by omega))
  clear hb28 F23 F24
  have F31 : Hid (ZOwn w21.heap.size w27.heap.size w27 (.slice (some ⟨g25, 0, none⟩) lB.length lB.length) lB) := hO26
  clear hO26
  go_wp2_with fail
  refine (HQ1.out _  _ _ (F30.out.at.wide (by omega)) (F31.out.at.wide (by omega))).mono ?_
  rintro e w32 ⟨rfl, hb33⟩
  have hsw32 : w27.heap.size ≤ w32.heap.size := hb33.size
  have F34 : Hid (Below w.heap.size w w32) := F29.out.trans (hb33.mono F29.out.size)
  have F35 : Hid (ZOwn w14.heap.size w21.heap.size w32 (.slice (some ⟨g19, 0, none⟩) lA.length lA.length) lA) := F30.out.same (Same.of_below hb33 (by omega))
  have F36 : Hid (ZOwn w21.heap.size w27.heap.size w32 (.slice (some ⟨g25, 0, none⟩) lB.length lB.length) lB) := F31.out.same (Same.of_below hb33 (by omega))
  clear hb33 F29 F30 F31
  go_wp2_with fail
  refine (toZ_any _ lA hn1A _ ((HAA.out.on F34.out).wide F34.out.size)).mono ?_
  rintro e w39 ⟨g37, rfl, hO38, hb40⟩
  have hsw39 : w32.heap.size ≤ w39.heap.size := hb40.size
  have F41 : Hid (Below w.heap.size w w39) := F34.out.trans (hb40.mono F34.out.size)
  have F42 : Hid (ZOwn w14.heap.size w21.heap.size w39 (.slice (some ⟨g19, 0, none⟩) lA.length lA.length) lA) := F35.out.same (Same.of_below hb40 (by omega))
  have F43 : Hid (ZOwn w21.heap.size w27.heap.size w39 (.slice (some ⟨g25, 0, none⟩) lB.length lB.length) lB) := F36.out.same (Same.of_below hb40 (by omega))
  clear hb40 F34 F35 F36
  have F44 : Hid (ZOwn w32.heap.size w39.heap.size w39 (.slice (some ⟨g37, 0, none⟩) lA.length lA.length) lA) := hO38
  clear hO38
  go_wp2_with fail
  refine (eqZ_any _ _ lA hn1A _ (F42.out.at.wide (by omega)) (F44.out.at.wide (by omega))).mono ?_
  rintro e w45 ⟨rfl, hb46⟩
  have hsw45 : w39.heap.size ≤ w45.heap.size := hb46.size
  have F47 : Hid (Below w.heap.size w w45) := F41.out.trans (hb46.mono F41.out.size)
  have F48 : Hid (ZOwn w14.heap.size w21.heap.size w45 (.slice (some ⟨g19, 0, none⟩) lA.length lA.length) lA) := F42.out.same (Same.of_below hb46 (by omega))
  have F49 : Hid (ZOwn w21.heap.size w27.heap.size w45 (.slice (some ⟨g25, 0, none⟩) lB.length lB.length) lB) := F43.out.same (Same.of_below hb46 (by omega))
  have F50 : Hid (ZOwn w32.heap.size w39.heap.size w45 (.slice (some ⟨g37, 0, none⟩) lA.length lA.length) lA) := F44.out.same (Same.of_below hb46 (by omega))
  clear hb46 F41 F42 F43 F44
  clear F50
  go_wp2_with fail
  refine (toZ_any _ lB hn1B _ ((HAB.out.on F47.out).wide F47.out.size)).mono ?_
  rintro e w53 ⟨g51, rfl, hO52, hb54⟩
  have hsw53 : w45.heap.size ≤ w53.heap.size := hb54.size
  have F55 : Hid (Below w.heap.size w w53) := F47.out.trans (hb54.mono F47.out.size)
  have F56 : Hid (ZOwn w14.heap.size w21.heap.size w53 (.slice (some ⟨g19, 0, none⟩) lA.length lA.length) lA) := F48.out.same (Same.of_below hb54 (by omega))
  have F57 : Hid (ZOwn w21.heap.size w27.heap.size w53 (.slice (some ⟨g25, 0, none⟩) lB.length lB.length) lB) := F49.out.same (Same.of_below hb54 (by omega))
  clear hb54 F47 F48 F49
  have F58 : Hid (ZOwn w45.heap.size w53.heap.size w53 (.slice (some ⟨g51, 0, none⟩) lB.length lB.length) lB) := hO52
  clear hO52
  go_wp2_with fail
  refine (eqZ_any _ _ lB hn1B _ (F57.out.at.wide (by omega)) (F58.out.at.wide (by omega))).mono ?_
  rintro e w59 ⟨rfl, hb60⟩
  have hsw59 : w53.heap.size ≤ w59.heap.size := hb60.size
  have F61 : Hid (Below w.heap.size w w59) := F55.out.trans (hb60.mono F55.out.size)
  have F62 : Hid (ZOwn w14.heap.size w21.heap.size w59 (.slice (some ⟨g19, 0, none⟩) lA.length lA.length) lA) := F56.out.same (Same.of_below hb60 (by omega))
  have F63 : Hid (ZOwn w21.heap.size w27.heap.size w59 (.slice (some ⟨g25, 0, none⟩) lB.length lB.length) lB) := F57.out.same (Same.of_below hb60 (by omega))
  have F64 : Hid (ZOwn w45.heap.size w53.heap.size w59 (.slice (some ⟨g51, 0, none⟩) lB.length lB.length) lB) := F58.out.same (Same.of_below hb60 (by omega))
  clear hb60 F55 F56 F57 F58
  clear F64
  go_wp2
  go_ret
  exact ⟨rfl, F61.out⟩


end Go.Proofs.Ytengnjffajimdaa
