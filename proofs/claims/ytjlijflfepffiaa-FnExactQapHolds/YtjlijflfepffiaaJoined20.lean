/-
  Texts of one's own, joined.
-/
import Derived.Test.YtjlijflfepffiaaJoined17
import Derived.Test.YtjlijflfepffiaaQapI4
import Derived.Test.YtjlijflfepffiaaJoined19
import Derived.Test.YtjlijflfepffiaaJoined15
import Derived.Test.YtjlijflfepffiaaJoined13
import Derived.Test.YtjlijflfepffiaaJoined10
import Derived.Test.YtjlijflfepffiaaJoined1
import Derived.OpenShut
import Derived.Test.YtjlijflfepffiaaSysArg

/-
  The walk of the exact law of what is mixed.
  (-DROP-: what the seat lacks is left out.)
-/
namespace Go.Proofs.Ytjlijflfepffiaa
open Go.RowKit

theorem markLsO_any (e : Nat) (v : Value) (n : Nat) (vs : List Value) (ls : List (List Int)) (k lo hi : Nat) (hkb : k + tot ls ≤ 1099511627776) (hz : ∀ j, (ls.getD j []).length ≤ 1048576) (hn : n ≤ 1048576) (w : World) (h : NOwnV 1 e lo hi w v n vs ls) :
    Calls Try.prog 41 #[v, .int .i64 (k : Int)] w fun e' w' => e' = .returned (.int .i64 ((k + tot ls : Nat) : Int)) ∧ NOwnV 1 e lo hi w' v n vs (mkzz k ls) ∧ Kps (fun b => lo ≤ b ∧ b < hi) w w' :=
  (markLs_any e v n vs ls k lo hi hkb hz hn w h).mono fun _ _ ⟨h1, h2, h3⟩ => ⟨h1, h2, h3.more fun b ⟨i, hi, hb⟩ => (h.each i (by omega)).in b hb⟩
set_option maxHeartbeats 6400000 in
set_option maxRecDepth 100000 in
theorem lawMixed (aL : Option Addr) (nL cL : Nat) (aW : Option Addr) (nW cW : Nat) (hnL : nL ≤ 9223372036854775807) (hnW : nW ≤ 9223372036854775807) (lsL : List (List Int)) (hzL : ∀ j, (lsL.getD j []).length ≤ 9223372036854775807) (fW : Nat → Int) (w : World) (hAL : NAt 1 w w.heap.size (.slice aL nL cL) nL lsL) (hAW : IntsAt w aW nW w.heap.size fW) :
    Calls Try.prog 6 #[.slice aL nL cL, .slice aW nW cW] w fun e w' => e = .returned (.bool true) ∧ Below w.heap.size w w' := by
  have HAL : Hid (NAt 1 w w.heap.size (.slice aL nL cL) nL lsL) := hAL
  clear hAL
  obtain ⟨lW, hlW⟩ : ∃ l, l = zls fW nW := ⟨_, rfl⟩
  have hllW : Hid (lW.length = nW) := by rw [hlW]; exact zls_length _ _
  have HAW : Hid (ZAt w w.heap.size (.slice aW nW cW) lW) := by rw [hlW]; exact ZAt.of hAW
  clear hlW hAW
  by_cases hbW : 1048576 < nW
  · have hbW' : (1048576 : Int) < (nW : Int) := by omega
    go_enter Try.func6, Try.ntmps6
    go_wp2
    go_ret
    exact ⟨rfl, Below.refl _ _⟩
  have hbW' : ¬ (1048576 : Int) < (nW : Int) := by omega
  have hn1W : lW.length ≤ 1048576 := by have := hllW.out; omega
  have HB0 : Hid (Below w.heap.size w w) := Below.refl _ _
  have HZL : Hid (szF 1048576 (nL + tot lsL) = -1 ∨ (¬ szF 1048576 (nL + tot lsL) < 0 ∧ nL + tot lsL ≤ 1048576)) := by show _ ∨ _; unfold szF; by_cases h : nL + tot lsL ≤ 1048576 <;> simp [h] <;> omega
  have HSZ : Hid (Calls Try.prog 36 #[.slice aL nL cL, .int .i64 1048576] w fun e w' => e = .returned (.int .i64 (szF 1048576 (nL + tot lsL))) ∧ Below w.heap.size w w') := szLs_any aL nL cL hnL lsL hzL w HAL.out
  generalize szF 1048576 (nL + tot lsL) = left at HZL HSZ
  rcases HZL.out with rfl | ⟨hleft, htotL⟩
  · skip
    go_enter Try.func6, Try.ntmps6
    go_wp2_with fail
    refine HSZ.out.mono ?_
    rintro e wz ⟨rfl, hbz⟩
    have hBz := HB0.out.trans (hbz.mono HB0.out.size)
    clear hbz HSZ
    go_wp2
    go_ret
    exact ⟨rfl, hBz⟩
  have hn1L : nL ≤ 1048576 := by omega
  have hz1L : ∀ j, (lsL.getD j []).length ≤ 1048576 := fun j => by
    rcases Nat.lt_or_ge j lsL.length with h | h
    · have := tot_at_le lsL h; omega
    · have e : lsL.getD j [] = [] := by simp [h]
      rw [e]; exact Nat.zero_le _
  clear HZL
  obtain ⟨R, hbd0, hq1, hq2⟩ : ∃ (R : List Int) , (R.length ≤ 1048576) ∧ (∀ avL cvL vW w, (nL ≤ cvL ∧ NAt 1 w w.heap.size (.slice avL nL cvL) nL lsL) → ZAt w w.heap.size vW lW → Calls Try.prog 26 #[.slice avL nL cvL, vW] w fun e w' => ∃ vR, e = .returned (vR) ∧ ZOwn w.heap.size w'.heap.size w' vR R ∧ Below w.heap.size w w') ∧ (∀ avL cvL vW w, (nL ≤ cvL ∧ NAt 1 w w.heap.size (.slice avL nL cvL) nL lsL) → ZAt w w.heap.size vW lW → Calls Try.prog 27 #[.slice avL nL cvL, vW] w fun e w' => ∃ vR, e = .returned (vR) ∧ ZOwn w.heap.size w'.heap.size w' vR R ∧ Below w.heap.size w w') := ⟨_, pMix_len _ _ hz1L, fun avL cvL vW w hL hW => (iMixV avL nL cvL lsL hn1L hz1L vW lW hn1W w hL hW), fun avL cvL vW w hL hW => (sMixV avL nL cvL lsL hn1L hz1L vW lW hn1W w hL hW)⟩
  have HQ1 : Hid _ := hq1
  have HQ2 : Hid _ := hq2
  clear hq1 hq2
  go_enter Try.func6, Try.ntmps6
  go_wp2_with fail
  refine HSZ.out.mono ?_
  rintro e w1 ⟨rfl, hb2⟩
  clear HSZ
  have hsw1 : w.heap.size ≤ w1.heap.size := hb2.size
  have F3 : Hid (Below w.heap.size w w1) := HB0.out.trans (hb2.mono HB0.out.size)
  clear hb2 HB0
  go_wp2_with fail
  refine (toLs_any _ nL lsL hn1L hz1L _ ((HAL.out.on F3.out).wide F3.out.size)).mono ?_
  rintro e w11 ⟨u7, vs6, rfl, hO5, hb12⟩
  obtain ⟨ra8, rc9, hv10⟩ := row_form hO5.row
  subst hv10
  have hsw11 : w1.heap.size ≤ w11.heap.size := hb12.size
  have F13 : Hid (Below w.heap.size w w11) := F3.out.trans (hb12.mono F3.out.size)
  clear hb12 F3
  have F14 : Hid (NOwnV 1 27 w1.heap.size w11.heap.size w11 (.slice ra8 nL rc9) nL vs6 lsL) := hO5
  clear hO5
  go_wp2_with fail
  refine (toZ_any _ lW hn1W _ ((HAW.out.on F13.out).wide F13.out.size)).mono ?_
  rintro e w17 ⟨g15, rfl, hO16, hb18⟩
  have hsw17 : w11.heap.size ≤ w17.heap.size := hb18.size
  have F19 : Hid (Below w.heap.size w w17) := F13.out.trans (hb18.mono F13.out.size)
  have F20 : Hid (NOwnV 1 27 w1.heap.size w11.heap.size w17 (.slice ra8 nL rc9) nL vs6 lsL) := F14.out.same (Same.of_below hb18 (by omega))
  clear hb18 F13 F14
  have F21 : Hid (ZOwn w11.heap.size w17.heap.size w17 (.slice (some ⟨g15, 0, none⟩) lW.length lW.length) lW) := hO16
  clear hO16
  go_wp2_with fail
  refine (HQ2.out _ _  _ _ ⟨owns_cap F20.out.row, F20.out.at.wide (by omega)⟩ (F21.out.at.wide (by omega))).mono ?_
  rintro e w24 ⟨v22, rfl, hO23, hb25⟩
  have hsw24 : w17.heap.size ≤ w24.heap.size := hb25.size
  have F26 : Hid (Below w.heap.size w w24) := F19.out.trans (hb25.mono F19.out.size)
  have F27 : Hid (NOwnV 1 27 w1.heap.size w11.heap.size w24 (.slice ra8 nL rc9) nL vs6 lsL) := F20.out.same (Same.of_below hb25 (by omega))
  have F28 : Hid (ZOwn w11.heap.size w17.heap.size w24 (.slice (some ⟨g15, 0, none⟩) lW.length lW.length) lW) := F21.out.same (Same.of_below hb25 (by omega))
  clear hb25 F19 F20 F21
  obtain ⟨ra29, rc30, hv31⟩ := row_form hO23.1
  subst hv31
  have F32 : Hid (ZOwn w17.heap.size w24.heap.size w24 (.slice ra29 R.length rc30) R) := hO23
  clear hO23
  clear HQ2
  clear F27 F28
  go_wp2_with fail
  refine (toLs_any _ nL lsL hn1L hz1L _ ((HAL.out.on F26.out).wide F26.out.size)).mono ?_
  rintro e w40 ⟨u36, vs35, rfl, hO34, hb41⟩
  obtain ⟨ra37, rc38, hv39⟩ := row_form hO34.row
  subst hv39
  have hsw40 : w24.heap.size ≤ w40.heap.size := hb41.size
  have F42 : Hid (Below w.heap.size w w40) := F26.out.trans (hb41.mono F26.out.size)
  have F43 : Hid (ZOwn w17.heap.size w24.heap.size w40 (.slice ra29 R.length rc30) R) := F32.out.same (Same.of_below hb41 (by omega))
  clear hb41 F26 F32
  have F44 : Hid (NOwnV 1 27 w24.heap.size w40.heap.size w40 (.slice ra37 nL rc38) nL vs35 lsL) := hO34
  clear hO34
  go_wp2_with fail
  refine (toZ_any _ lW hn1W _ ((HAW.out.on F42.out).wide F42.out.size)).mono ?_
  rintro e w47 ⟨g45, rfl, hO46, hb48⟩
  have hsw47 : w40.heap.size ≤ w47.heap.size := hb48.size
  have F49 : Hid (Below w.heap.size w w47) := F42.out.trans (hb48.mono F42.out.size)
  have F50 : Hid (ZOwn w17.heap.size w24.heap.size w47 (.slice ra29 R.length rc30) R) := F43.out.same (Same.of_below hb48 (by omega))
  have F51 : Hid (NOwnV 1 27 w24.heap.size w40.heap.size w47 (.slice ra37 nL rc38) nL vs35 lsL) := F44.out.same (Same.of_below hb48 (by omega))
  clear hb48 F42 F43 F44
  have F52 : Hid (ZOwn w40.heap.size w47.heap.size w47 (.slice (some ⟨g45, 0, none⟩) lW.length lW.length) lW) := hO46
  clear hO46
  go_wp2_with fail
  refine (HQ1.out _ _  _ _ ⟨owns_cap F51.out.row, F51.out.at.wide (by omega)⟩ (F52.out.at.wide (by omega))).mono ?_
  rintro e w55 ⟨v53, rfl, hO54, hb56⟩
  have hsw55 : w47.heap.size ≤ w55.heap.size := hb56.size
  have F57 : Hid (Below w.heap.size w w55) := F49.out.trans (hb56.mono F49.out.size)
  have F58 : Hid (ZOwn w17.heap.size w24.heap.size w55 (.slice ra29 R.length rc30) R) := F50.out.same (Same.of_below hb56 (by omega))
  have F59 : Hid (NOwnV 1 27 w24.heap.size w40.heap.size w55 (.slice ra37 nL rc38) nL vs35 lsL) := F51.out.same (Same.of_below hb56 (by omega))
  have F60 : Hid (ZOwn w40.heap.size w47.heap.size w55 (.slice (some ⟨g45, 0, none⟩) lW.length lW.length) lW) := F52.out.same (Same.of_below hb56 (by omega))
  clear hb56 F49 F50 F51 F52
  obtain ⟨ra61, rc62, hv63⟩ := row_form hO54.1
  subst hv63
  have F64 : Hid (ZOwn w47.heap.size w55.heap.size w55 (.slice ra61 R.length rc62) R) := hO54
  clear hO54
  have hbdR := hbd0
  go_wp2_with fail
  refine (eqZ_any _ _ R hbdR _ (F64.out.at.wide (by omega)) (F58.out.at.wide (by omega))).mono ?_
  rintro e w65 ⟨rfl, hb66⟩
  have hsw65 : w55.heap.size ≤ w65.heap.size := hb66.size
  have F67 : Hid (Below w.heap.size w w65) := F57.out.trans (hb66.mono F57.out.size)
  have F68 : Hid (ZOwn w17.heap.size w24.heap.size w65 (.slice ra29 R.length rc30) R) := F58.out.same (Same.of_below hb66 (by omega))
  have F69 : Hid (NOwnV 1 27 w24.heap.size w40.heap.size w65 (.slice ra37 nL rc38) nL vs35 lsL) := F59.out.same (Same.of_below hb66 (by omega))
  have F70 : Hid (ZOwn w40.heap.size w47.heap.size w65 (.slice (some ⟨g45, 0, none⟩) lW.length lW.length) lW) := F60.out.same (Same.of_below hb66 (by omega))
  have F71 : Hid (ZOwn w47.heap.size w55.heap.size w65 (.slice ra61 R.length rc62) R) := F64.out.same (Same.of_below hb66 (by omega))
  clear hb66 F57 F58 F59 F60 F64
  go_wp2_with fail
  refine (toLs_any _ nL lsL hn1L hz1L _ ((HAL.out.on F67.out).wide F67.out.size)).mono ?_
  rintro e w79 ⟨u75, vs74, rfl, hO73, hb80⟩
  obtain ⟨ra76, rc77, hv78⟩ := row_form hO73.row
  subst hv78
  have hsw79 : w65.heap.size ≤ w79.heap.size := hb80.size
  have F81 : Hid (Below w.heap.size w w79) := F67.out.trans (hb80.mono F67.out.size)
  have F82 : Hid (ZOwn w17.heap.size w24.heap.size w79 (.slice ra29 R.length rc30) R) := F68.out.same (Same.of_below hb80 (by omega))
  have F83 : Hid (NOwnV 1 27 w24.heap.size w40.heap.size w79 (.slice ra37 nL rc38) nL vs35 lsL) := F69.out.same (Same.of_below hb80 (by omega))
  have F84 : Hid (ZOwn w40.heap.size w47.heap.size w79 (.slice (some ⟨g45, 0, none⟩) lW.length lW.length) lW) := F70.out.same (Same.of_below hb80 (by omega))
  have F85 : Hid (ZOwn w47.heap.size w55.heap.size w79 (.slice ra61 R.length rc62) R) := F71.out.same (Same.of_below hb80 (by omega))
  clear hb80 F67 F68 F69 F70 F71
  have F86 : Hid (NOwnV 1 27 w65.heap.size w79.heap.size w79 (.slice ra76 nL rc77) nL vs74 lsL) := hO73
  clear hO73
  go_wp2_with fail
  refine (eqLs_any _ _ nL lsL hn1L hz1L _ (F83.out.at.wide (by omega)) (F86.out.at.wide (by omega))).mono ?_
  rintro e w87 ⟨rfl, hb88⟩
  have hsw87 : w79.heap.size ≤ w87.heap.size := hb88.size
  have F89 : Hid (Below w.heap.size w w87) := F81.out.trans (hb88.mono F81.out.size)
  have F90 : Hid (ZOwn w17.heap.size w24.heap.size w87 (.slice ra29 R.length rc30) R) := F82.out.same (Same.of_below hb88 (by omega))
  have F91 : Hid (NOwnV 1 27 w24.heap.size w40.heap.size w87 (.slice ra37 nL rc38) nL vs35 lsL) := F83.out.same (Same.of_below hb88 (by omega))
  have F92 : Hid (ZOwn w40.heap.size w47.heap.size w87 (.slice (some ⟨g45, 0, none⟩) lW.length lW.length) lW) := F84.out.same (Same.of_below hb88 (by omega))
  have F93 : Hid (ZOwn w47.heap.size w55.heap.size w87 (.slice ra61 R.length rc62) R) := F85.out.same (Same.of_below hb88 (by omega))
  have F94 : Hid (NOwnV 1 27 w65.heap.size w79.heap.size w87 (.slice ra76 nL rc77) nL vs74 lsL) := F86.out.same (Same.of_below hb88 (by omega))
  clear hb88 F81 F82 F83 F84 F85 F86
  clear F94
  go_wp2_with fail
  refine (toZ_any _ lW hn1W _ ((HAW.out.on F89.out).wide F89.out.size)).mono ?_
  rintro e w97 ⟨g95, rfl, hO96, hb98⟩
  have hsw97 : w87.heap.size ≤ w97.heap.size := hb98.size
  have F99 : Hid (Below w.heap.size w w97) := F89.out.trans (hb98.mono F89.out.size)
  have F100 : Hid (ZOwn w17.heap.size w24.heap.size w97 (.slice ra29 R.length rc30) R) := F90.out.same (Same.of_below hb98 (by omega))
  have F101 : Hid (NOwnV 1 27 w24.heap.size w40.heap.size w97 (.slice ra37 nL rc38) nL vs35 lsL) := F91.out.same (Same.of_below hb98 (by omega))
  have F102 : Hid (ZOwn w40.heap.size w47.heap.size w97 (.slice (some ⟨g45, 0, none⟩) lW.length lW.length) lW) := F92.out.same (Same.of_below hb98 (by omega))
  have F103 : Hid (ZOwn w47.heap.size w55.heap.size w97 (.slice ra61 R.length rc62) R) := F93.out.same (Same.of_below hb98 (by omega))
  clear hb98 F89 F90 F91 F92 F93
  have F104 : Hid (ZOwn w87.heap.size w97.heap.size w97 (.slice (some ⟨g95, 0, none⟩) lW.length lW.length) lW) := hO96
  clear hO96
  go_wp2_with fail
  refine (eqZ_any _ _ lW hn1W _ (F102.out.at.wide (by omega)) (F104.out.at.wide (by omega))).mono ?_
  rintro e w105 ⟨rfl, hb106⟩
  have hsw105 : w97.heap.size ≤ w105.heap.size := hb106.size
  have F107 : Hid (Below w.heap.size w w105) := F99.out.trans (hb106.mono F99.out.size)
  have F108 : Hid (ZOwn w17.heap.size w24.heap.size w105 (.slice ra29 R.length rc30) R) := F100.out.same (Same.of_below hb106 (by omega))
  have F109 : Hid (NOwnV 1 27 w24.heap.size w40.heap.size w105 (.slice ra37 nL rc38) nL vs35 lsL) := F101.out.same (Same.of_below hb106 (by omega))
  have F110 : Hid (ZOwn w40.heap.size w47.heap.size w105 (.slice (some ⟨g45, 0, none⟩) lW.length lW.length) lW) := F102.out.same (Same.of_below hb106 (by omega))
  have F111 : Hid (ZOwn w47.heap.size w55.heap.size w105 (.slice ra61 R.length rc62) R) := F103.out.same (Same.of_below hb106 (by omega))
  have F112 : Hid (ZOwn w87.heap.size w97.heap.size w105 (.slice (some ⟨g95, 0, none⟩) lW.length lW.length) lW) := F104.out.same (Same.of_below hb106 (by omega))
  clear hb106 F99 F100 F101 F102 F103 F104
  clear F112
  go_wp2_with fail
  refine (markLsO_any _ _ nL _ lsL (1) _ _ (by omega) hz1L hn1L _ F109.out).mono ?_
  rintro e w113 ⟨rfl, hR114, hk115⟩
  have hsw113 : w105.heap.size ≤ w113.heap.size := hk115.size
  have F116 : Hid (Below w.heap.size w w113) := hk115.bel F107.out F107.out.size (fun k q => by have h3 := q.1; omega)
  have F117 : Hid (ZOwn w17.heap.size w24.heap.size w113 (.slice ra29 R.length rc30) R) := F108.out.same (Same.of_kps hk115 (by omega) (fun k h1 h2 q => by have h3 := q.1; have h4 := q.2; omega))
  have F118 : Hid (ZOwn w40.heap.size w47.heap.size w113 (.slice (some ⟨g45, 0, none⟩) lW.length lW.length) lW) := F110.out.same (Same.of_kps hk115 (by omega) (fun k h1 h2 q => by have h3 := q.1; have h4 := q.2; omega))
  have F119 : Hid (ZOwn w47.heap.size w55.heap.size w113 (.slice ra61 R.length rc62) R) := F111.out.same (Same.of_kps hk115 (by omega) (fun k h1 h2 q => by have h3 := q.1; have h4 := q.2; omega))
  clear hk115 F107 F108 F110 F111
  have F120 : Hid (NOwnV 1 27 w24.heap.size w40.heap.size w113 (.slice ra37 nL rc38) nL vs35 (mkzz (1) lsL)) := hR114
  clear hR114 F109
  go_wp2_with fail
  refine (markZo_any _ lW (1 + tot lsL) _ _ (by omega) hn1W _ F118.out).mono ?_
  rintro e w121 ⟨rfl, hR122, hk123⟩
  have hsw121 : w113.heap.size ≤ w121.heap.size := hk123.size
  have F124 : Hid (Below w.heap.size w w121) := hk123.bel F116.out F116.out.size (fun k q => by have h3 := q.1; omega)
  have F125 : Hid (ZOwn w17.heap.size w24.heap.size w121 (.slice ra29 R.length rc30) R) := F117.out.same (Same.of_kps hk123 (by omega) (fun k h1 h2 q => by have h3 := q.1; have h4 := q.2; omega))
  have F126 : Hid (NOwnV 1 27 w24.heap.size w40.heap.size w121 (.slice ra37 nL rc38) nL vs35 (mkzz (1) lsL)) := F120.out.same (Same.of_kps hk123 (by omega) (fun k h1 h2 q => by have h3 := q.1; have h4 := q.2; omega))
  have F127 : Hid (ZOwn w47.heap.size w55.heap.size w121 (.slice ra61 R.length rc62) R) := F119.out.same (Same.of_kps hk123 (by omega) (fun k h1 h2 q => by have h3 := q.1; have h4 := q.2; omega))
  clear hk123 F116 F117 F120 F119
  have F128 : Hid (ZOwn w40.heap.size w47.heap.size w121 (.slice (some ⟨g45, 0, none⟩) lW.length lW.length) (mkz (1 + tot lsL) lW.length)) := hR122
  clear hR122 F118
  have hkp : ¬ ((1 + tot lsL + lW.length : Nat) : Int) < 0 := by omega
  clear F126
  clear F128
  go_wp2_with fail
  refine (eqZ_any _ _ R hbdR _ (F127.out.at.wide (by omega)) (F125.out.at.wide (by omega))).mono ?_
  rintro e w129 ⟨rfl, hb130⟩
  have hsw129 : w121.heap.size ≤ w129.heap.size := hb130.size
  have F131 : Hid (Below w.heap.size w w129) := F124.out.trans (hb130.mono F124.out.size)
  have F132 : Hid (ZOwn w17.heap.size w24.heap.size w129 (.slice ra29 R.length rc30) R) := F125.out.same (Same.of_below hb130 (by omega))
  have F133 : Hid (ZOwn w47.heap.size w55.heap.size w129 (.slice ra61 R.length rc62) R) := F127.out.same (Same.of_below hb130 (by omega))
  clear hb130 F124 F125 F127
  go_wp2_with fail
  refine (markZo_any _ R (1) _ _ (by omega) hbdR _ F133.out).mono ?_
  rintro e w134 ⟨rfl, hR135, hk136⟩
  have hsw134 : w129.heap.size ≤ w134.heap.size := hk136.size
  have F137 : Hid (Below w.heap.size w w134) := hk136.bel F131.out F131.out.size (fun k q => by have h3 := q.1; omega)
  have F138 : Hid (ZOwn w17.heap.size w24.heap.size w134 (.slice ra29 R.length rc30) R) := F132.out.same (Same.of_kps hk136 (by omega) (fun k h1 h2 q => by have h3 := q.1; have h4 := q.2; omega))
  clear hk136 F131 F132
  have F139 : Hid (ZOwn w47.heap.size w55.heap.size w134 (.slice ra61 R.length rc62) (mkz (1) R.length)) := hR135
  clear hR135 F133
  have hkm : ¬ ((1 + R.length : Nat) : Int) < 0 := by omega
  go_wp2_with fail
  refine (heldZo_any _ R.length (1) _ _ (by omega) hbdR _ F139.out).mono ?_
  rintro e w140 ⟨rfl, hb141⟩
  have hsw140 : w134.heap.size ≤ w140.heap.size := hb141.size
  have F142 : Hid (Below w.heap.size w w140) := F137.out.trans (hb141.mono F137.out.size)
  have F143 : Hid (ZOwn w17.heap.size w24.heap.size w140 (.slice ra29 R.length rc30) R) := F138.out.same (Same.of_below hb141 (by omega))
  have F144 : Hid (ZOwn w47.heap.size w55.heap.size w140 (.slice ra61 R.length rc62) (mkz (1) R.length)) := F139.out.same (Same.of_below hb141 (by omega))
  clear hb141 F137 F138 F139
  go_wp2_with fail
  refine (toLs_any _ nL lsL hn1L hz1L _ ((HAL.out.on F142.out).wide F142.out.size)).mono ?_
  rintro e w152 ⟨u148, vs147, rfl, hO146, hb153⟩
  obtain ⟨ra149, rc150, hv151⟩ := row_form hO146.row
  subst hv151
  have hsw152 : w140.heap.size ≤ w152.heap.size := hb153.size
  have F154 : Hid (Below w.heap.size w w152) := F142.out.trans (hb153.mono F142.out.size)
  have F155 : Hid (ZOwn w17.heap.size w24.heap.size w152 (.slice ra29 R.length rc30) R) := F143.out.same (Same.of_below hb153 (by omega))
  have F156 : Hid (ZOwn w47.heap.size w55.heap.size w152 (.slice ra61 R.length rc62) (mkz (1) R.length)) := F144.out.same (Same.of_below hb153 (by omega))
  clear hb153 F142 F143 F144
  have F157 : Hid (NOwnV 1 27 w140.heap.size w152.heap.size w152 (.slice ra149 nL rc150) nL vs147 lsL) := hO146
  clear hO146
  go_wp2_with fail
  refine (toZ_any _ lW hn1W _ ((HAW.out.on F154.out).wide F154.out.size)).mono ?_
  rintro e w160 ⟨g158, rfl, hO159, hb161⟩
  have hsw160 : w152.heap.size ≤ w160.heap.size := hb161.size
  have F162 : Hid (Below w.heap.size w w160) := F154.out.trans (hb161.mono F154.out.size)
  have F163 : Hid (ZOwn w17.heap.size w24.heap.size w160 (.slice ra29 R.length rc30) R) := F155.out.same (Same.of_below hb161 (by omega))
  have F164 : Hid (ZOwn w47.heap.size w55.heap.size w160 (.slice ra61 R.length rc62) (mkz (1) R.length)) := F156.out.same (Same.of_below hb161 (by omega))
  have F165 : Hid (NOwnV 1 27 w140.heap.size w152.heap.size w160 (.slice ra149 nL rc150) nL vs147 lsL) := F157.out.same (Same.of_below hb161 (by omega))
  clear hb161 F154 F155 F156 F157
  have F166 : Hid (ZOwn w152.heap.size w160.heap.size w160 (.slice (some ⟨g158, 0, none⟩) lW.length lW.length) lW) := hO159
  clear hO159
  go_wp2_with fail
  refine (HQ1.out _ _  _ _ ⟨owns_cap F165.out.row, F165.out.at.wide (by omega)⟩ (F166.out.at.wide (by omega))).mono ?_
  rintro e w169 ⟨v167, rfl, hO168, hb170⟩
  have hsw169 : w160.heap.size ≤ w169.heap.size := hb170.size
  have F171 : Hid (Below w.heap.size w w169) := F162.out.trans (hb170.mono F162.out.size)
  have F172 : Hid (ZOwn w17.heap.size w24.heap.size w169 (.slice ra29 R.length rc30) R) := F163.out.same (Same.of_below hb170 (by omega))
  have F173 : Hid (ZOwn w47.heap.size w55.heap.size w169 (.slice ra61 R.length rc62) (mkz (1) R.length)) := F164.out.same (Same.of_below hb170 (by omega))
  have F174 : Hid (NOwnV 1 27 w140.heap.size w152.heap.size w169 (.slice ra149 nL rc150) nL vs147 lsL) := F165.out.same (Same.of_below hb170 (by omega))
  have F175 : Hid (ZOwn w152.heap.size w160.heap.size w169 (.slice (some ⟨g158, 0, none⟩) lW.length lW.length) lW) := F166.out.same (Same.of_below hb170 (by omega))
  clear hb170 F162 F163 F164 F165 F166
  obtain ⟨ra176, rc177, hv178⟩ := row_form hO168.1
  subst hv178
  have F179 : Hid (ZOwn w160.heap.size w169.heap.size w169 (.slice ra176 R.length rc177) R) := hO168
  clear hO168
  clear HQ1
  clear F174 F175
  go_wp2_with fail
  refine (eqZ_any _ _ R hbdR _ (F179.out.at.wide (by omega)) (F172.out.at.wide (by omega))).mono ?_
  rintro e w180 ⟨rfl, hb181⟩
  have hsw180 : w169.heap.size ≤ w180.heap.size := hb181.size
  have F182 : Hid (Below w.heap.size w w180) := F171.out.trans (hb181.mono F171.out.size)
  have F183 : Hid (ZOwn w17.heap.size w24.heap.size w180 (.slice ra29 R.length rc30) R) := F172.out.same (Same.of_below hb181 (by omega))
  have F184 : Hid (ZOwn w47.heap.size w55.heap.size w180 (.slice ra61 R.length rc62) (mkz (1) R.length)) := F173.out.same (Same.of_below hb181 (by omega))
  have F185 : Hid (ZOwn w160.heap.size w169.heap.size w180 (.slice ra176 R.length rc177) R) := F179.out.same (Same.of_below hb181 (by omega))
  clear hb181 F171 F172 F173 F179
  go_wp2_with fail
  refine (heldZo_any _ R.length (1) _ _ (by omega) hbdR _ F184.out).mono ?_
  rintro e w186 ⟨rfl, hb187⟩
  have hsw186 : w180.heap.size ≤ w186.heap.size := hb187.size
  have F188 : Hid (Below w.heap.size w w186) := F182.out.trans (hb187.mono F182.out.size)
  have F189 : Hid (ZOwn w17.heap.size w24.heap.size w186 (.slice ra29 R.length rc30) R) := F183.out.same (Same.of_below hb187 (by omega))
  have F190 : Hid (ZOwn w47.heap.size w55.heap.size w186 (.slice ra61 R.length rc62) (mkz (1) R.length)) := F184.out.same (Same.of_below hb187 (by omega))
  have F191 : Hid (ZOwn w160.heap.size w169.heap.size w186 (.slice ra176 R.length rc177) R) := F185.out.same (Same.of_below hb187 (by omega))
  clear hb187 F182 F183 F184 F185
  go_wp2
  go_ret
  exact ⟨rfl, F188.out⟩

end Go.Proofs.Ytjlijflfepffiaa

/-
  What an argument of ints is to the walk.
-/
namespace Go.Proofs.Ytjlijflfepffiaa
open Go.RowKit Go.ChangeShapes Go.WideShapes

theorem intsAt_of {W : World} {x : Addr} {zs : List Int} {len cap : Nat} (hl : len ≤ cap) (hz : zs.length = cap) (hcell : ∀ i, i < zs.length → W.cell? (x.add i) = some (.int .i64 (zs.getD i 0))) : IntsAt W (some x) len W.heap.size (fun j => zs.getD j 0) := by
  intro j hj
  obtain ⟨b, off, spot⟩ := x
  have hspot : spot = none := by simpa [Addr.add] using World.cell?_spot (hcell 0 (by omega))
  subst hspot
  have hc0 : W.cell? ⟨b, off + j, none⟩ = some (.int .i64 (zs.getD j 0)) := by rw [← Addr.add_lit]; exact hcell j (by omega)
  exact ⟨b, off, rfl, World.block_lt_of_cell? W _ hc0, hc0⟩

end Go.Proofs.Ytjlijflfepffiaa

/-
  What an argument that is a list of lists of numbers is to the walk.
-/
namespace Go.Proofs.Ytjlijflfepffiaa
open Go.RowKit Go.ChangeShapes Go.WideShapes Go.Joins Go.Deep

set_option maxRecDepth 100000 in
theorem ls_of {H : Type} {enc : TypeId × Value → H} {W : World} {sp : Nat → Bool} {fuel : Nat} {a : Option Addr} {len cap : Nat} {x : DataW H × List MemPlace} (h : DataW.trod enc Try.prog W 0 sp true fuel 39 [.slice a len cap] = some x) :
    ∃ ls, NAt 1 W W.heap.size (.slice a len cap) len ls ∧ len ≤ 9223372036854775807 ∧ ∀ j, (ls.getD j []).length ≤ 9223372036854775807 := by
  rcases open_slice Try.underlying39 h with ⟨hcs, _⟩ | ⟨x, l, c, m, n, D, Pl, hcs, hb, hl, hm, hmm, _, hx⟩
  · simp at hcs
    obtain ⟨rfl, rfl, rfl⟩ := hcs
    exact ⟨[], ⟨by simp, none, 0, rfl, fun j hj => by omega⟩, by omega, fun j => by simp⟩
  · simp at hcs
    obtain ⟨rfl, rfl, rfl⟩ := hcs
    have hlm : len ≤ m := by rw [hmm]; split <;> omega
    have each : ∀ i, i < m → ∃ q : List Int, ∃ u, W.cell? (x.add i) = some u ∧ ZAt W W.heap.size u q ∧ q.length ≤ 9223372036854775807 := by
      intro i hi
      obtain ⟨cs', h1, h2⟩ := hx i hi
      rw [cellsIs] at h1
      obtain ⟨_, hlen, hcell⟩ := World.cells?_some h1
      match cs', hlen with
      | [v0], _ =>
        obtain ⟨l0, z0, b0⟩ := zat_of h2
        have c0 := hcell 0 (by omega)
        rw [add_add] at c0
        exact ⟨l0, v0, by simpa using c0, z0, b0⟩
    obtain ⟨q, hq⟩ := choose_lt each
    have hls : ∀ j, j < len → ((List.range len).map q).getD j [] = q j := fun j hj => by simp [hj]
    refine ⟨(List.range len).map q, ⟨by simp, some x, cap, rfl, fun j hj => ?_⟩, by unfold maxLen at hm; omega, fun j => ?_⟩
    · obtain ⟨u, h1, h2, _⟩ := hq j (by omega)
      obtain ⟨b, off, spot⟩ := x
      obtain ⟨u', h1', _⟩ := hq 0 (by omega)
      have hspot : spot = none := by simpa [Addr.add] using World.cell?_spot h1'
      subst hspot
      rw [Addr.add_lit] at h1
      exact ⟨b, off, u, rfl, World.block_lt_of_cell? W _ h1, h1, by rw [hls j (by omega)]; exact h2⟩
    · by_cases hj : j < len
      · rw [hls j hj]
        obtain ⟨u, _, _, h3⟩ := hq j (by omega)
        exact h3
      · have e : ((List.range len).map q).getD j [] = [] := by rw [List.getD_eq_getElem?_getD, List.getElem?_eq_none (by simp; omega)]; rfl
        rw [e]
        exact Nat.zero_le _

end Go.Proofs.Ytjlijflfepffiaa
