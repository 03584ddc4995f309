/-
  The walks of the exact laws of paths by halves (texts).
  (-DROP-: what the seat lacks is left out.)
-/
import Derived.Test.YtengnjffajimdaaNibI6
import Derived.Test.YtengnjffajimdaaNibS8
import Derived.Test.YtengnjffajimdaaExZ
namespace Go.Proofs.Ytengnjffajimdaa
open Go.RowKit

set_option maxHeartbeats 6400000 in
set_option maxRecDepth 100000 in
theorem lawPrefixText (aA : Option Addr) (nA cA : Nat) (L : Bool) (hnA : nA ≤ 9223372036854775807) (fA : Nat → Int) (w : World) (hAA : IntsAt w aA nA w.heap.size fA) :
    Calls Try.prog 6 #[.slice aA nA cA, .bool L] w fun e w' => e = .returned (.bool true) ∧ Below w.heap.size w w' := by
  obtain ⟨lA, hlA⟩ : ∃ l, l = zls fA nA := ⟨_, rfl⟩
  have hllA : Hid (lA.length = nA) := by rw [hlA]; exact zls_length _ _
  have HAA : Hid (ZAt w w.heap.size (.slice aA nA cA) lA) := by rw [hlA]; exact ZAt.of hAA
  clear hlA hAA
  by_cases hbA : 1048576 < nA
  · have hbA' : (1048576 : Int) < (nA : Int) := by omega
    go_enter Try.func6, Try.ntmps6
    go_wp2
    go_ret
    exact ⟨rfl, Below.refl _ _⟩
  have hbA' : ¬ (1048576 : Int) < (nA : Int) := by omega
  have hn1A : lA.length ≤ 1048576 := by have := hllA.out; omega
  have HB0 : Hid (Below w.heap.size w w) := Below.refl _ _
  obtain ⟨R, B, hq1, hq2⟩ : ∃ (R : ByteArray) (B : Bool) , (∀ vA w, ZAt w w.heap.size vA lA → Calls Try.prog 11 #[vA, .bool L] w fun e w' => e = .returned (.tuple #[.string R, .bool B]) ∧ Below w.heap.size w w') ∧ (∀ vA w, ZAt w w.heap.size vA lA → Calls Try.prog 28 #[vA, .bool L] w fun e w' => e = .returned (.tuple #[.string R, .bool B]) ∧ Below w.heap.size w w') := ⟨_, _, fun vA w hA => (iPrefix_any vA lA L hn1A w hA), fun vA w hA => (sPrefix_any vA lA L hn1A w hA)⟩
  have httR : (R.toList == R.toList) = true := beq_self_eq_true _
  have HQ1 : Hid _ := hq1
  have HQ2 : Hid _ := hq2
  clear hq1 hq2
  go_enter Try.func6, Try.ntmps6
  go_wp2_with fail
  refine (toZ_any _ lA hn1A _ ((HAA.out.on HB0.out).wide HB0.out.size)).mono ?_
  rintro e w3 ⟨g1, rfl, hO2, hb4⟩
  have hsw3 : w.heap.size ≤ w3.heap.size := hb4.size
  have F5 : Hid (Below w.heap.size w w3) := HB0.out.trans (hb4.mono HB0.out.size)
  clear hb4 HB0
  have F6 : Hid (ZOwn w.heap.size w3.heap.size w3 (.slice (some ⟨g1, 0, none⟩) lA.length lA.length) lA) := hO2
  clear hO2
  go_wp2_with fail
  refine (HQ2.out _ _ (F6.out.at.wide (by omega))).mono ?_
  rintro e w7 ⟨rfl, hb8⟩
  have hsw7 : w3.heap.size ≤ w7.heap.size := hb8.size
  have F9 : Hid (Below w.heap.size w w7) := F5.out.trans (hb8.mono F5.out.size)
  have F10 : Hid (ZOwn w.heap.size w3.heap.size w7 (.slice (some ⟨g1, 0, none⟩) lA.length lA.length) lA) := F6.out.same (Same.of_below hb8 (by omega))
  clear hb8 F5 F6
  clear HQ2
  clear F10
  go_wp2_with fail
  refine (toZ_any _ lA hn1A _ ((HAA.out.on F9.out).wide F9.out.size)).mono ?_
  rintro e w13 ⟨g11, rfl, hO12, hb14⟩
  have hsw13 : w7.heap.size ≤ w13.heap.size := hb14.size
  have F15 : Hid (Below w.heap.size w w13) := F9.out.trans (hb14.mono F9.out.size)
  clear hb14 F9
  have F16 : Hid (ZOwn w7.heap.size w13.heap.size w13 (.slice (some ⟨g11, 0, none⟩) lA.length lA.length) lA) := hO12
  clear hO12
  go_wp2_with fail
  refine (HQ1.out _ _ (F16.out.at.wide (by omega))).mono ?_
  rintro e w17 ⟨rfl, hb18⟩
  have hsw17 : w13.heap.size ≤ w17.heap.size := hb18.size
  have F19 : Hid (Below w.heap.size w w17) := F15.out.trans (hb18.mono F15.out.size)
  have F20 : Hid (ZOwn w7.heap.size w13.heap.size w17 (.slice (some ⟨g11, 0, none⟩) lA.length lA.length) lA) := F16.out.same (Same.of_below hb18 (by omega))
  clear hb18 F15 F16
  go_wp2_with fail
  refine (toZ_any _ lA hn1A _ ((HAA.out.on F19.out).wide F19.out.size)).mono ?_
  rintro e w23 ⟨g21, rfl, hO22, hb24⟩
  have hsw23 : w17.heap.size ≤ w23.heap.size := hb24.size
  have F25 : Hid (Below w.heap.size w w23) := F19.out.trans (hb24.mono F19.out.size)
  have F26 : Hid (ZOwn w7.heap.size w13.heap.size w23 (.slice (some ⟨g11, 0, none⟩) lA.length lA.length) lA) := F20.out.same (Same.of_below hb24 (by omega))
  clear hb24 F19 F20
  have F27 : Hid (ZOwn w17.heap.size w23.heap.size w23 (.slice (some ⟨g21, 0, none⟩) lA.length lA.length) lA) := hO22
  clear hO22
  go_wp2_with fail
  refine (eqZ_any _ _ lA hn1A _ (F26.out.at.wide (by omega)) (F27.out.at.wide (by omega))).mono ?_
  rintro e w28 ⟨rfl, hb29⟩
  have hsw28 : w23.heap.size ≤ w28.heap.size := hb29.size
  have F30 : Hid (Below w.heap.size w w28) := F25.out.trans (hb29.mono F25.out.size)
  have F31 : Hid (ZOwn w7.heap.size w13.heap.size w28 (.slice (some ⟨g11, 0, none⟩) lA.length lA.length) lA) := F26.out.same (Same.of_below hb29 (by omega))
  have F32 : Hid (ZOwn w17.heap.size w23.heap.size w28 (.slice (some ⟨g21, 0, none⟩) lA.length lA.length) lA) := F27.out.same (Same.of_below hb29 (by omega))
  clear hb29 F25 F26 F27
  clear F32
  go_wp2
  go_ret
  exact ⟨rfl, F30.out⟩

theorem off_of {P : Program} {f : Nat} {av : Array Value} {w : World} {l : List Int} {b c : Bool} (h : Calls P f av w fun e w' => ∃ u, e = .returned (.tuple #[u, .bool b, .bool c]) ∧ ZOwn w.heap.size w'.heap.size w' u l ∧ Below w.heap.size w w') :
    Calls P f av w fun e w' => ∃ u, e = .returned (.tuple #[u, .bool b, .bool c]) ∧ ZOff w.heap.size w'.heap.size w' u l ∧ Below w.heap.size w w' :=
  h.mono fun _ _ ⟨u, h1, h2, h3⟩ => ⟨u, h1, h2.off, h3⟩
theorem rdPl_len (t : ByteArray) : (rdPl t).length ≤ 4194304 := by
  cases hr : rdP t with
  | none => rw [(rd_none hr).2.2]; exact Nat.zero_le _
  | some x =>
    obtain ⟨l, b⟩ := x
    have h2 := (nib_in (pre_again hr).1).1
    rw [(rd_some hr).2.2]
    omega

set_option maxHeartbeats 6400000 in
set_option maxRecDepth 100000 in
theorem lawReadPrefix (T : ByteArray) (hsT : T.size ≤ 9223372036854775807) (w : World) :
    Calls Try.prog 7 #[.string T] w fun e w' => e = .returned (.bool true) ∧ Below w.heap.size w w' := by
  by_cases hbT : 1048576 < T.size
  · have hbT' : (1048576 : Int) < (T.size : Int) := by omega
    go_enter Try.func7, Try.ntmps7
    go_wp2
    go_ret
    exact ⟨rfl, Below.refl _ _⟩
  have hbT' : ¬ (1048576 : Int) < (T.size : Int) := by omega
  have htT : T.size ≤ 1048576 := by omega
  have HB0 : Hid (Below w.heap.size w w) := Below.refl _ _
  obtain ⟨R, B, C, hbd0, hq1, hq2⟩ : ∃ (R : List Int) (B : Bool) (C : Bool) , (R.length ≤ 4194304) ∧ (∀ w, Calls Try.prog 12 #[.string T] w fun e w' => ∃ vR, e = .returned (.tuple #[vR, .bool B, .bool C]) ∧ ZOff w.heap.size w'.heap.size w' vR R ∧ Below w.heap.size w w') ∧ (∀ w, Calls Try.prog 14 #[.string T] w fun e w' => ∃ vR, e = .returned (.tuple #[vR, .bool B, .bool C]) ∧ ZOff w.heap.size w'.heap.size w' vR R ∧ Below w.heap.size w w') := ⟨_, _, _, rdPl_len T, fun w => (iRead_any T htT w), fun w => (off_of (sRead_any T htT w))⟩
  have HQ1 : Hid _ := hq1
  have HQ2 : Hid _ := hq2
  clear hq1 hq2
  go_enter Try.func7, Try.ntmps7
  go_wp2_with fail
  refine (HQ2.out _ ).mono ?_
  rintro e w3 ⟨v1, rfl, hO2, hb4⟩
  have hsw3 : w.heap.size ≤ w3.heap.size := hb4.size
  have F5 : Hid (Below w.heap.size w w3) := HB0.out.trans (hb4.mono HB0.out.size)
  clear hb4 HB0
  obtain ⟨ra6, rc7, hv8⟩ := hO2.form
  subst hv8
  have F9 : Hid (ZOff w.heap.size w3.heap.size w3 (.slice ra6 R.length rc7) R) := hO2
  clear hO2
  clear HQ2
  go_wp2_with fail
  refine (HQ1.out _ ).mono ?_
  rintro e w12 ⟨v10, rfl, hO11, hb13⟩
  have hsw12 : w3.heap.size ≤ w12.heap.size := hb13.size
  have F14 : Hid (Below w.heap.size w w12) := F5.out.trans (hb13.mono F5.out.size)
  have F15 : Hid (ZOff w.heap.size w3.heap.size w12 (.slice ra6 R.length rc7) R) := F9.out.same (Same.of_below hb13 (by omega))
  clear hb13 F5 F9
  obtain ⟨ra16, rc17, hv18⟩ := hO11.form
  subst hv18
  have F19 : Hid (ZOff w3.heap.size w12.heap.size w12 (.slice ra16 R.length rc17) R) := hO11
  clear hO11
  have hbdR := hbd0
  go_wp2_with fail
  refine (eqZW_any _ _ R hbdR _ (F19.out.at.wide (by omega)) (F15.out.at.wide (by omega))).mono ?_
  rintro e w20 ⟨rfl, hb21⟩
  have hsw20 : w12.heap.size ≤ w20.heap.size := hb21.size
  have F22 : Hid (Below w.heap.size w w20) := F14.out.trans (hb21.mono F14.out.size)
  have F23 : Hid (ZOff w.heap.size w3.heap.size w20 (.slice ra6 R.length rc7) R) := F15.out.same (Same.of_below hb21 (by omega))
  have F24 : Hid (ZOff w3.heap.size w12.heap.size w20 (.slice ra16 R.length rc17) R) := F19.out.same (Same.of_below hb21 (by omega))
  clear hb21 F14 F15 F19
  go_wp2_with fail
  refine (markF_any _ R (1) _ _ (by omega) hbdR _ F24.out).mono ?_
  rintro e w25 ⟨rfl, hR26, hk27⟩
  have hsw25 : w20.heap.size ≤ w25.heap.size := hk27.size
  have F28 : Hid (Below w.heap.size w w25) := hk27.bel F22.out F22.out.size (fun k q => by have h3 := q.1; omega)
  have F29 : Hid (ZOff w.heap.size w3.heap.size w25 (.slice ra6 R.length rc7) R) := F23.out.same (Same.of_kps hk27 (by omega) (fun k h1 h2 q => by have h3 := q.1; have h4 := q.2; omega))
  clear hk27 F22 F23
  have F30 : Hid (ZOff w3.heap.size w12.heap.size w25 (.slice ra16 R.length rc17) (mkz (1) R.length)) := hR26
  clear hR26 F24
  have hkm : ¬ ((1 + R.length : Nat) : Int) < 0 := by omega
  go_wp2_with fail
  refine (heldF_any _ R.length (1) _ _ (by omega) hbdR _ F30.out).mono ?_
  rintro e w31 ⟨rfl, hb32⟩
  have hsw31 : w25.heap.size ≤ w31.heap.size := hb32.size
  have F33 : Hid (Below w.heap.size w w31) := F28.out.trans (hb32.mono F28.out.size)
  have F34 : Hid (ZOff w.heap.size w3.heap.size w31 (.slice ra6 R.length rc7) R) := F29.out.same (Same.of_below hb32 (by omega))
  have F35 : Hid (ZOff w3.heap.size w12.heap.size w31 (.slice ra16 R.length rc17) (mkz (1) R.length)) := F30.out.same (Same.of_below hb32 (by omega))
  clear hb32 F28 F29 F30
  go_wp2_with fail
  refine (HQ1.out _ ).mono ?_
  rintro e w38 ⟨v36, rfl, hO37, hb39⟩
  have hsw38 : w31.heap.size ≤ w38.heap.size := hb39.size
  have F40 : Hid (Below w.heap.size w w38) := F33.out.trans (hb39.mono F33.out.size)
  have F41 : Hid (ZOff w.heap.size w3.heap.size w38 (.slice ra6 R.length rc7) R) := F34.out.same (Same.of_below hb39 (by omega))
  have F42 : Hid (ZOff w3.heap.size w12.heap.size w38 (.slice ra16 R.length rc17) (mkz (1) R.length)) := F35.out.same (Same.of_below hb39 (by omega))
  clear hb39 F33 F34 F35
  obtain ⟨ra43, rc44, hv45⟩ := hO37.form
  subst hv45
  have F46 : Hid (ZOff w31.heap.size w38.heap.size w38 (.slice ra43 R.length rc44) R) := hO37
  clear hO37
  clear HQ1
  go_wp2_with fail
  refine (eqZW_any _ _ R hbdR _ (F46.out.at.wide (by omega)) (F41.out.at.wide (by omega))).mono ?_
  rintro e w47 ⟨rfl, hb48⟩
  have hsw47 : w38.heap.size ≤ w47.heap.size := hb48.size
  have F49 : Hid (Below w.heap.size w w47) := F40.out.trans (hb48.mono F40.out.size)
  have F50 : Hid (ZOff w.heap.size w3.heap.size w47 (.slice ra6 R.length rc7) R) := F41.out.same (Same.of_below hb48 (by omega))
  have F51 : Hid (ZOff w3.heap.size w12.heap.size w47 (.slice ra16 R.length rc17) (mkz (1) R.length)) := F42.out.same (Same.of_below hb48 (by omega))
  have F52 : Hid (ZOff w31.heap.size w38.heap.size w47 (.slice ra43 R.length rc44) R) := F46.out.same (Same.of_below hb48 (by omega))
  clear hb48 F40 F41 F42 F46
  go_wp2_with fail
  refine (heldF_any _ R.length (1) _ _ (by omega) hbdR _ F51.out).mono ?_
  rintro e w53 ⟨rfl, hb54⟩
  have hsw53 : w47.heap.size ≤ w53.heap.size := hb54.size
  have F55 : Hid (Below w.heap.size w w53) := F49.out.trans (hb54.mono F49.out.size)
  have F56 : Hid (ZOff w.heap.size w3.heap.size w53 (.slice ra6 R.length rc7) R) := F50.out.same (Same.of_below hb54 (by omega))
  have F57 : Hid (ZOff w3.heap.size w12.heap.size w53 (.slice ra16 R.length rc17) (mkz (1) R.length)) := F51.out.same (Same.of_below hb54 (by omega))
  have F58 : Hid (ZOff w31.heap.size w38.heap.size w53 (.slice ra43 R.length rc44) R) := F52.out.same (Same.of_below hb54 (by omega))
  clear hb54 F49 F50 F51 F52
  go_wp2
  go_ret
  exact ⟨rfl, F55.out⟩


end Go.Proofs.Ytengnjffajimdaa
