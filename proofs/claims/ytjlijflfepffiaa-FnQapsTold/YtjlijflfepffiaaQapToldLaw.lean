/-
  The walk of the law that what becomes of a drawn system, right or not, is what the document tells.
  (-DROP-: what the seat lacks is left out.)
-/
import Derived.Test.YtjlijflfepffiaaQapI7
import Derived.Test.YtjlijflfepffiaaJoined15
import Derived.Test.YtjlijflfepffiaaJoined17
import Derived.Test.YtjlijflfepffiaaJoined22
import Derived.Test.YtjlijflfepffiaaLsSame
import Derived.Test.YtjlijflfepffiaaJoined6

namespace Go.Proofs.Ytjlijflfepffiaa
open Go.RowKit

theorem ArgAt.widenT {w : World} {a : Option Addr} {len c d : Nat} (h : ArgAt w a len c) (hd : c ≤ d) : ArgAt w a len d := fun j hj => by
  obtain ⟨b, off, z, h1, h2, h3⟩ := h j hj
  exact ⟨b, off, z, h1, by omega, h3⟩
theorem le16 {ls : List (List Int)} (h : ∀ j, (ls.getD j []).length ≤ 16) (j : Nat) : (ls.getD j []).length ≤ 9223372036854775807 := Nat.le_trans (h j) (by decide)
theorem quotL_20 (wi pu : Int) (n : Nat) (ls : List (List Int)) (m : List Int) : (quotL wi pu n ls m).length ≤ 1048576 := by
  unfold quotL
  split
  · exact pQuo_len _ _
  · exact Nat.zero_le _
theorem pMix_20 (L : List (List Int)) (m : List Int) (hz : ∀ j, (L.getD j []).length ≤ 1048576) : (pMix L m).length ≤ 1048576 := mixN_len L m _ _ fun i _ => hz i

set_option maxHeartbeats 12800000 in
set_option maxRecDepth 100000 in
theorem lawQapsTold (a : Option Addr) (len cap : Nat) (hm : len ≤ 9223372036854775807) (w : World) (hA : ArgAt w a len w.heap.size) :
    Calls Try.prog 4 #[.slice a len cap] w fun e w' => e = .returned (.bool true) ∧ Below w.heap.size w w' := by
  have HA : Hid (ArgAt w a len w.heap.size) := hA
  clear hA
  by_cases hb : 1048576 < len
  · have hd : decide (1048576 < len) = true := decide_eq_true hb
    go_enter Try.func4, Try.ntmps4
    go_wp2_with (go_at_call 9; refine (big_any _ _ _ hm _).mono ?_; rintro e w0 ⟨rfl, rfl⟩)
    go_ret
    exact ⟨rfl, Below.refl _ _⟩
  · have hd : decide (1048576 < len) = false := decide_eq_false hb
    have hm1 : len ≤ 1048576 := by omega
    have CB : Hid (∀ w, Calls Try.prog 9 #[.slice a len cap] w fun e w' => e = .returned (.bool false) ∧ w = w') := fun w => by rw [← hd]; exact big_any _ _ _ hm w
    clear hb hd hm
    have HB : Hid (Below w.heap.size w w) := Below.refl _ _
    go_enter Try.func4, Try.ntmps4
    go_wp2_with fail
    go_at_call 9
    refine (CB.out _).mono ?_
    rintro e wz ⟨rfl, rfl⟩
    clear CB
    go_wp2_with fail
    refine (qapD_any len cap a hm1 _ HA.out).mono ?_
    rintro e w1 ⟨wiS, puS, vS, nS, lsS, rfl, hwfS, hnS, hlsS, hNS, hb1⟩
    obtain ⟨_, vaS, vcS, hvS, _⟩ := id hNS
    subst hvS
    have HWS : Hid ((Lit.int .i64 wiS).wf = true) := hwfS
    have HLS : Hid (∀ j, (lsS.getD j []).length ≤ 16) := hlsS
    clear hwfS hlsS
    have H1 : Hid (ArgAt w1 a len w1.heap.size) := (HA.out.on hb1).widenT hb1.size
    have H2 : Hid (Below w.heap.size w w1) := HB.out.trans (hb1.mono HB.out.size)
    clear HA HB hb1
    have H3 : Hid (NAt 3 w1 w1.heap.size (.slice vaS nS vcS) nS lsS) := hNS
    clear hNS
    unfold sysV
    obtain ⟨V4, hV5, hb6, hs7⟩ := box1 w1 26 #[.int .i64 0, .int .i64 0, .slice none 0 0]
    go_wp2_with (first | (refine store_blkS (cs' := #[.int .i64 wiS, .int .i64 puS, .slice vaS nS vcS]) rfl rfl rfl rfl rfl hs7 infoSy rfl (onesSy _ _ _ _ _) ?_; intro X8 hq9 hheap hoth hbel; have hb10 := hbel _ _ (Nat.le_refl _) hb6; clear hoth hbel hheap) | (refine load_blk rfl rfl rfl hq9 Try.underlying26 infoSy ?_))
    have hltX8 : w1.heap.size < X8.heap.size := hq9.lt
    have H11 : Hid (ArgAt X8 a len X8.heap.size) := (H1.out.on hb10).widenT hb10.size
    have H12 : Hid (Below w.heap.size w X8) := H2.out.trans (hb10.mono H2.out.size)
    have H13 : Hid (NAt 3 X8 X8.heap.size (.slice vaS nS vcS) nS lsS) := (H3.out.on hb10).wide hb10.size
    clear H1 H2 H3
    have H14 : Hid (Blk X8 w1.heap.size 26 #[.int .i64 wiS, .int .i64 puS, .slice vaS nS vcS]) := hq9
    clear hb10 hq9 hV5 hb6 hs7
    refine (iQapV wiS puS HWS.out vaS nS vcS (by omega) lsS (le16 HLS.out) _ H13.out).mono ?_
    rintro e w15 ⟨v18, v19, v20, vs21, vs22, vs23, rfl, hT16, hb17⟩
    obtain ⟨ra24, rc25, hv26⟩ := row_form hT16.u.row
    subst hv26
    obtain ⟨ra27, rc28, hv29⟩ := row_form hT16.v.row
    subst hv29
    obtain ⟨ra30, rc31, hv32⟩ := row_form hT16.x.row
    subst hv32
    have H33 : Hid (ArgAt w15 a len w15.heap.size) := (H11.out.on hb17).widenT hb17.size
    have H34 : Hid (Below w.heap.size w w15) := H12.out.trans (hb17.mono H12.out.size)
    have H35 : Hid (NAt 3 w15 w15.heap.size (.slice vaS nS vcS) nS lsS) := (H13.out.on hb17).wide hb17.size
    have H36 : Hid (Blk w15 w1.heap.size 26 #[.int .i64 wiS, .int .i64 puS, .slice vaS nS vcS]) := H14.out.on hb17 H14.out.lt
    clear H11 H12 H13 H14 hb17
    have H37 : Hid (NAt 1 w15 w15.heap.size (.slice ra24 (qapC wiS puS nS lsS) rc25) (qapC wiS puS nS lsS) (qapN lsS nS 0 (qapC wiS puS nS lsS))) := hT16.u.at
    have H38 : Hid (NAt 1 w15 w15.heap.size (.slice ra27 (qapC wiS puS nS lsS) rc28) (qapC wiS puS nS lsS) (qapN lsS nS 1 (qapC wiS puS nS lsS))) := hT16.v.at
    have H39 : Hid (NAt 1 w15 w15.heap.size (.slice ra30 (qapC wiS puS nS lsS) rc31) (qapC wiS puS nS lsS) (qapN lsS nS 2 (qapC wiS puS nS lsS))) := hT16.x.at
    clear hT16
    obtain ⟨V40, hV41, hb42, hs43⟩ := box1 w15 41 #[.slice none 0 0, .slice none 0 0, .slice none 0 0]
    go_wp2_with (first | (refine store_blkS (cs' := #[.slice ra24 (qapC wiS puS nS lsS) rc25, .slice ra27 (qapC wiS puS nS lsS) rc28, .slice ra30 (qapC wiS puS nS lsS) rc31]) rfl rfl rfl rfl rfl hs43 infoQa rfl (onesQa _ _ _ _ _ _ _ _ _) ?_; intro X44 hq45 hheap hoth hbel; have hb46 := hbel _ _ (Nat.le_refl _) hb42; clear hoth hbel hheap; have hsS := H36.out.on hb46 H36.out.lt) | (refine load_blk rfl rfl rfl hsS Try.underlying26 infoSy ?_))
    clear hsS
    have hltX44 : w15.heap.size < X44.heap.size := hq45.lt
    have H47 : Hid (ArgAt X44 a len X44.heap.size) := (H33.out.on hb46).widenT hb46.size
    have H48 : Hid (Below w.heap.size w X44) := H34.out.trans (hb46.mono H34.out.size)
    have H49 : Hid (NAt 3 X44 X44.heap.size (.slice vaS nS vcS) nS lsS) := (H35.out.on hb46).wide hb46.size
    have H50 : Hid (Blk X44 w1.heap.size 26 #[.int .i64 wiS, .int .i64 puS, .slice vaS nS vcS]) := H36.out.on hb46 H36.out.lt
    have H51 : Hid (NAt 1 X44 X44.heap.size (.slice ra24 (qapC wiS puS nS lsS) rc25) (qapC wiS puS nS lsS) (qapN lsS nS 0 (qapC wiS puS nS lsS))) := (H37.out.on hb46).wide hb46.size
    have H52 : Hid (NAt 1 X44 X44.heap.size (.slice ra27 (qapC wiS puS nS lsS) rc28) (qapC wiS puS nS lsS) (qapN lsS nS 1 (qapC wiS puS nS lsS))) := (H38.out.on hb46).wide hb46.size
    have H53 : Hid (NAt 1 X44 X44.heap.size (.slice ra30 (qapC wiS puS nS lsS) rc31) (qapC wiS puS nS lsS) (qapN lsS nS 2 (qapC wiS puS nS lsS))) := (H39.out.on hb46).wide hb46.size
    clear H33 H34 H35 H36 H37 H38 H39
    have H54 : Hid (Blk X44 w15.heap.size 41 #[.slice ra24 (qapC wiS puS nS lsS) rc25, .slice ra27 (qapC wiS puS nS lsS) rc28, .slice ra30 (qapC wiS puS nS lsS) rc31]) := hq45
    clear hb46 hq45 hV41 hb42 hs43
    refine (sQapV wiS puS HWS.out vaS nS vcS (by omega) lsS (le16 HLS.out) _ H49.out).mono ?_
    rintro e w55 ⟨v58, v59, v60, vs61, vs62, vs63, rfl, hT56, hb57⟩
    obtain ⟨ra64, rc65, hv66⟩ := row_form hT56.u.row
    subst hv66
    obtain ⟨ra67, rc68, hv69⟩ := row_form hT56.v.row
    subst hv69
    obtain ⟨ra70, rc71, hv72⟩ := row_form hT56.x.row
    subst hv72
    have H73 : Hid (ArgAt w55 a len w55.heap.size) := (H47.out.on hb57).widenT hb57.size
    have H74 : Hid (Below w.heap.size w w55) := H48.out.trans (hb57.mono H48.out.size)
    have H75 : Hid (NAt 3 w55 w55.heap.size (.slice vaS nS vcS) nS lsS) := (H49.out.on hb57).wide hb57.size
    have H76 : Hid (Blk w55 w1.heap.size 26 #[.int .i64 wiS, .int .i64 puS, .slice vaS nS vcS]) := H50.out.on hb57 H50.out.lt
    have H77 : Hid (NAt 1 w55 w55.heap.size (.slice ra24 (qapC wiS puS nS lsS) rc25) (qapC wiS puS nS lsS) (qapN lsS nS 0 (qapC wiS puS nS lsS))) := (H51.out.on hb57).wide hb57.size
    have H78 : Hid (NAt 1 w55 w55.heap.size (.slice ra27 (qapC wiS puS nS lsS) rc28) (qapC wiS puS nS lsS) (qapN lsS nS 1 (qapC wiS puS nS lsS))) := (H52.out.on hb57).wide hb57.size
    have H79 : Hid (NAt 1 w55 w55.heap.size (.slice ra30 (qapC wiS puS nS lsS) rc31) (qapC wiS puS nS lsS) (qapN lsS nS 2 (qapC wiS puS nS lsS))) := (H53.out.on hb57).wide hb57.size
    have H80 : Hid (Blk w55 w15.heap.size 41 #[.slice ra24 (qapC wiS puS nS lsS) rc25, .slice ra27 (qapC wiS puS nS lsS) rc28, .slice ra30 (qapC wiS puS nS lsS) rc31]) := H54.out.on hb57 H54.out.lt
    clear H47 H48 H49 H50 H51 H52 H53 H54 hb57
    have H81 : Hid (NAt 1 w55 w55.heap.size (.slice ra64 (qapC wiS puS nS lsS) rc65) (qapC wiS puS nS lsS) (qapN lsS nS 0 (qapC wiS puS nS lsS))) := hT56.u.at
    have H82 : Hid (NAt 1 w55 w55.heap.size (.slice ra67 (qapC wiS puS nS lsS) rc68) (qapC wiS puS nS lsS) (qapN lsS nS 1 (qapC wiS puS nS lsS))) := hT56.v.at
    have H83 : Hid (NAt 1 w55 w55.heap.size (.slice ra70 (qapC wiS puS nS lsS) rc71) (qapC wiS puS nS lsS) (qapN lsS nS 2 (qapC wiS puS nS lsS))) := hT56.x.at
    clear hT56
    obtain ⟨V84, hV85, hb86, hs87⟩ := box1 w55 41 #[.slice none 0 0, .slice none 0 0, .slice none 0 0]
    go_wp2_with (refine store_blkS (cs' := #[.slice ra64 (qapC wiS puS nS lsS) rc65, .slice ra67 (qapC wiS puS nS lsS) rc68, .slice ra70 (qapC wiS puS nS lsS) rc71]) rfl rfl rfl rfl rfl hs87 infoQa rfl (onesQa _ _ _ _ _ _ _ _ _) ?_; intro X88 hq89 hheap hoth hbel; have hb90 := hbel _ _ (Nat.le_refl _) hb86; clear hoth hbel hheap)
    have hltX88 : w55.heap.size < X88.heap.size := hq89.lt
    have H91 : Hid (ArgAt X88 a len X88.heap.size) := (H73.out.on hb90).widenT hb90.size
    have H92 : Hid (Below w.heap.size w X88) := H74.out.trans (hb90.mono H74.out.size)
    have H93 : Hid (NAt 3 X88 X88.heap.size (.slice vaS nS vcS) nS lsS) := (H75.out.on hb90).wide hb90.size
    have H94 : Hid (Blk X88 w1.heap.size 26 #[.int .i64 wiS, .int .i64 puS, .slice vaS nS vcS]) := H76.out.on hb90 H76.out.lt
    have H95 : Hid (NAt 1 X88 X88.heap.size (.slice ra24 (qapC wiS puS nS lsS) rc25) (qapC wiS puS nS lsS) (qapN lsS nS 0 (qapC wiS puS nS lsS))) := (H77.out.on hb90).wide hb90.size
    have H96 : Hid (NAt 1 X88 X88.heap.size (.slice ra27 (qapC wiS puS nS lsS) rc28) (qapC wiS puS nS lsS) (qapN lsS nS 1 (qapC wiS puS nS lsS))) := (H78.out.on hb90).wide hb90.size
    have H97 : Hid (NAt 1 X88 X88.heap.size (.slice ra30 (qapC wiS puS nS lsS) rc31) (qapC wiS puS nS lsS) (qapN lsS nS 2 (qapC wiS puS nS lsS))) := (H79.out.on hb90).wide hb90.size
    have H98 : Hid (Blk X88 w15.heap.size 41 #[.slice ra24 (qapC wiS puS nS lsS) rc25, .slice ra27 (qapC wiS puS nS lsS) rc28, .slice ra30 (qapC wiS puS nS lsS) rc31]) := H80.out.on hb90 H80.out.lt
    have H99 : Hid (NAt 1 X88 X88.heap.size (.slice ra64 (qapC wiS puS nS lsS) rc65) (qapC wiS puS nS lsS) (qapN lsS nS 0 (qapC wiS puS nS lsS))) := (H81.out.on hb90).wide hb90.size
    have H100 : Hid (NAt 1 X88 X88.heap.size (.slice ra67 (qapC wiS puS nS lsS) rc68) (qapC wiS puS nS lsS) (qapN lsS nS 1 (qapC wiS puS nS lsS))) := (H82.out.on hb90).wide hb90.size
    have H101 : Hid (NAt 1 X88 X88.heap.size (.slice ra70 (qapC wiS puS nS lsS) rc71) (qapC wiS puS nS lsS) (qapN lsS nS 2 (qapC wiS puS nS lsS))) := (H83.out.on hb90).wide hb90.size
    clear H73 H74 H75 H76 H77 H78 H79 H80 H81 H82 H83
    have H102 : Hid (Blk X88 w55.heap.size 41 #[.slice ra64 (qapC wiS puS nS lsS) rc65, .slice ra67 (qapC wiS puS nS lsS) rc68, .slice ra70 (qapC wiS puS nS lsS) rc71]) := hq89
    clear hb90 hq89 hV85 hb86 hs87
    refine (mixedD_any len cap a hm1 _ H91.out).mono ?_
    rintro e wm ⟨vaL, vcL, uL, L, mL, rfl, hL5, hLc, hLz, hmL, hNL, hZL, hbm⟩
    obtain ⟨uaL, ucL, huL, _⟩ := id hZL
    subst huL
    have HLZ : Hid (∀ j, (L.getD j []).length ≤ 65) := hLz
    clear hLz
    have H103 : Hid (ArgAt wm a len wm.heap.size) := (H91.out.on hbm).widenT hbm.size
    have H104 : Hid (Below w.heap.size w wm) := H92.out.trans (hbm.mono H92.out.size)
    have H105 : Hid (NAt 3 wm wm.heap.size (.slice vaS nS vcS) nS lsS) := (H93.out.on hbm).wide hbm.size
    have H106 : Hid (Blk wm w1.heap.size 26 #[.int .i64 wiS, .int .i64 puS, .slice vaS nS vcS]) := H94.out.on hbm H94.out.lt
    have H107 : Hid (NAt 1 wm wm.heap.size (.slice ra24 (qapC wiS puS nS lsS) rc25) (qapC wiS puS nS lsS) (qapN lsS nS 0 (qapC wiS puS nS lsS))) := (H95.out.on hbm).wide hbm.size
    have H108 : Hid (NAt 1 wm wm.heap.size (.slice ra27 (qapC wiS puS nS lsS) rc28) (qapC wiS puS nS lsS) (qapN lsS nS 1 (qapC wiS puS nS lsS))) := (H96.out.on hbm).wide hbm.size
    have H109 : Hid (NAt 1 wm wm.heap.size (.slice ra30 (qapC wiS puS nS lsS) rc31) (qapC wiS puS nS lsS) (qapN lsS nS 2 (qapC wiS puS nS lsS))) := (H97.out.on hbm).wide hbm.size
    have H110 : Hid (Blk wm w15.heap.size 41 #[.slice ra24 (qapC wiS puS nS lsS) rc25, .slice ra27 (qapC wiS puS nS lsS) rc28, .slice ra30 (qapC wiS puS nS lsS) rc31]) := H98.out.on hbm H98.out.lt
    have H111 : Hid (NAt 1 wm wm.heap.size (.slice ra64 (qapC wiS puS nS lsS) rc65) (qapC wiS puS nS lsS) (qapN lsS nS 0 (qapC wiS puS nS lsS))) := (H99.out.on hbm).wide hbm.size
    have H112 : Hid (NAt 1 wm wm.heap.size (.slice ra67 (qapC wiS puS nS lsS) rc68) (qapC wiS puS nS lsS) (qapN lsS nS 1 (qapC wiS puS nS lsS))) := (H100.out.on hbm).wide hbm.size
    have H113 : Hid (NAt 1 wm wm.heap.size (.slice ra70 (qapC wiS puS nS lsS) rc71) (qapC wiS puS nS lsS) (qapN lsS nS 2 (qapC wiS puS nS lsS))) := (H101.out.on hbm).wide hbm.size
    have H114 : Hid (Blk wm w55.heap.size 41 #[.slice ra64 (qapC wiS puS nS lsS) rc65, .slice ra67 (qapC wiS puS nS lsS) rc68, .slice ra70 (qapC wiS puS nS lsS) rc71]) := H102.out.on hbm H102.out.lt
    clear H91 H92 H93 H94 H95 H96 H97 H98 H99 H100 H101 H102 hbm
    have H115 : Hid (NAt 1 wm wm.heap.size (.slice vaL L.length vcL) L.length L) := hNL
    have H116 : Hid (ZAt wm wm.heap.size (.slice uaL mL.length ucL) mL) := hZL
    clear hNL hZL
    go_wp2_with fail
    refine (quotD_any len cap a hm1 _ H103.out).mono ?_
    rintro e wq ⟨wiX, puX, vX, uX, nX, lsX, mX, rfl, hwfX, hnX, hlsX, hmX, hNX, hZX, hbq⟩
    obtain ⟨_, vaX, vcX, hvX, _⟩ := id hNX
    subst hvX
    obtain ⟨uaX, ucX, huX, _⟩ := id hZX
    subst huX
    have HWX : Hid ((Lit.int .i64 wiX).wf = true) := hwfX
    have HLX : Hid (∀ j, (lsX.getD j []).length ≤ 16) := hlsX
    clear hwfX hlsX
    have H117 : Hid (ArgAt wq a len wq.heap.size) := (H103.out.on hbq).widenT hbq.size
    have H118 : Hid (Below w.heap.size w wq) := H104.out.trans (hbq.mono H104.out.size)
    have H119 : Hid (NAt 3 wq wq.heap.size (.slice vaS nS vcS) nS lsS) := (H105.out.on hbq).wide hbq.size
    have H120 : Hid (Blk wq w1.heap.size 26 #[.int .i64 wiS, .int .i64 puS, .slice vaS nS vcS]) := H106.out.on hbq H106.out.lt
    have H121 : Hid (NAt 1 wq wq.heap.size (.slice ra24 (qapC wiS puS nS lsS) rc25) (qapC wiS puS nS lsS) (qapN lsS nS 0 (qapC wiS puS nS lsS))) := (H107.out.on hbq).wide hbq.size
    have H122 : Hid (NAt 1 wq wq.heap.size (.slice ra27 (qapC wiS puS nS lsS) rc28) (qapC wiS puS nS lsS) (qapN lsS nS 1 (qapC wiS puS nS lsS))) := (H108.out.on hbq).wide hbq.size
    have H123 : Hid (NAt 1 wq wq.heap.size (.slice ra30 (qapC wiS puS nS lsS) rc31) (qapC wiS puS nS lsS) (qapN lsS nS 2 (qapC wiS puS nS lsS))) := (H109.out.on hbq).wide hbq.size
    have H124 : Hid (Blk wq w15.heap.size 41 #[.slice ra24 (qapC wiS puS nS lsS) rc25, .slice ra27 (qapC wiS puS nS lsS) rc28, .slice ra30 (qapC wiS puS nS lsS) rc31]) := H110.out.on hbq H110.out.lt
    have H125 : Hid (NAt 1 wq wq.heap.size (.slice ra64 (qapC wiS puS nS lsS) rc65) (qapC wiS puS nS lsS) (qapN lsS nS 0 (qapC wiS puS nS lsS))) := (H111.out.on hbq).wide hbq.size
    have H126 : Hid (NAt 1 wq wq.heap.size (.slice ra67 (qapC wiS puS nS lsS) rc68) (qapC wiS puS nS lsS) (qapN lsS nS 1 (qapC wiS puS nS lsS))) := (H112.out.on hbq).wide hbq.size
    have H127 : Hid (NAt 1 wq wq.heap.size (.slice ra70 (qapC wiS puS nS lsS) rc71) (qapC wiS puS nS lsS) (qapN lsS nS 2 (qapC wiS puS nS lsS))) := (H113.out.on hbq).wide hbq.size
    have H128 : Hid (Blk wq w55.heap.size 41 #[.slice ra64 (qapC wiS puS nS lsS) rc65, .slice ra67 (qapC wiS puS nS lsS) rc68, .slice ra70 (qapC wiS puS nS lsS) rc71]) := H114.out.on hbq H114.out.lt
    have H129 : Hid (NAt 1 wq wq.heap.size (.slice vaL L.length vcL) L.length L) := (H115.out.on hbq).wide hbq.size
    have H130 : Hid (ZAt wq wq.heap.size (.slice uaL mL.length ucL) mL) := (H116.out.on hbq).wide hbq.size
    clear H103 H104 H105 H106 H107 H108 H109 H110 H111 H112 H113 H114 H115 H116 hbq
    have H131 : Hid (NAt 3 wq wq.heap.size (.slice vaX nX vcX) nX lsX) := hNX
    have H132 : Hid (ZAt wq wq.heap.size (.slice uaX mX.length ucX) mX) := hZX
    clear hNX hZX
    unfold sysV
    obtain ⟨V133, hV134, hb135, hs136⟩ := box1 wq 26 #[.int .i64 0, .int .i64 0, .slice none 0 0]
    go_wp2_with (first | (refine store_blkS (cs' := #[.int .i64 wiX, .int .i64 puX, .slice vaX nX vcX]) rfl rfl rfl rfl rfl hs136 infoSy rfl (onesSy _ _ _ _ _) ?_; intro X137 hq138 hheap hoth hbel; have hb139 := hbel _ _ (Nat.le_refl _) hb135; clear hoth hbel hheap) | (refine load_blk rfl rfl rfl hq138 Try.underlying26 infoSy ?_))
    have hltX137 : wq.heap.size < X137.heap.size := hq138.lt
    have H140 : Hid (ArgAt X137 a len X137.heap.size) := (H117.out.on hb139).widenT hb139.size
    have H141 : Hid (Below w.heap.size w X137) := H118.out.trans (hb139.mono H118.out.size)
    have H142 : Hid (NAt 3 X137 X137.heap.size (.slice vaS nS vcS) nS lsS) := (H119.out.on hb139).wide hb139.size
    have H143 : Hid (Blk X137 w1.heap.size 26 #[.int .i64 wiS, .int .i64 puS, .slice vaS nS vcS]) := H120.out.on hb139 H120.out.lt
    have H144 : Hid (NAt 1 X137 X137.heap.size (.slice ra24 (qapC wiS puS nS lsS) rc25) (qapC wiS puS nS lsS) (qapN lsS nS 0 (qapC wiS puS nS lsS))) := (H121.out.on hb139).wide hb139.size
    have H145 : Hid (NAt 1 X137 X137.heap.size (.slice ra27 (qapC wiS puS nS lsS) rc28) (qapC wiS puS nS lsS) (qapN lsS nS 1 (qapC wiS puS nS lsS))) := (H122.out.on hb139).wide hb139.size
    have H146 : Hid (NAt 1 X137 X137.heap.size (.slice ra30 (qapC wiS puS nS lsS) rc31) (qapC wiS puS nS lsS) (qapN lsS nS 2 (qapC wiS puS nS lsS))) := (H123.out.on hb139).wide hb139.size
    have H147 : Hid (Blk X137 w15.heap.size 41 #[.slice ra24 (qapC wiS puS nS lsS) rc25, .slice ra27 (qapC wiS puS nS lsS) rc28, .slice ra30 (qapC wiS puS nS lsS) rc31]) := H124.out.on hb139 H124.out.lt
    have H148 : Hid (NAt 1 X137 X137.heap.size (.slice ra64 (qapC wiS puS nS lsS) rc65) (qapC wiS puS nS lsS) (qapN lsS nS 0 (qapC wiS puS nS lsS))) := (H125.out.on hb139).wide hb139.size
    have H149 : Hid (NAt 1 X137 X137.heap.size (.slice ra67 (qapC wiS puS nS lsS) rc68) (qapC wiS puS nS lsS) (qapN lsS nS 1 (qapC wiS puS nS lsS))) := (H126.out.on hb139).wide hb139.size
    have H150 : Hid (NAt 1 X137 X137.heap.size (.slice ra70 (qapC wiS puS nS lsS) rc71) (qapC wiS puS nS lsS) (qapN lsS nS 2 (qapC wiS puS nS lsS))) := (H127.out.on hb139).wide hb139.size
    have H151 : Hid (Blk X137 w55.heap.size 41 #[.slice ra64 (qapC wiS puS nS lsS) rc65, .slice ra67 (qapC wiS puS nS lsS) rc68, .slice ra70 (qapC wiS puS nS lsS) rc71]) := H128.out.on hb139 H128.out.lt
    have H152 : Hid (NAt 1 X137 X137.heap.size (.slice vaL L.length vcL) L.length L) := (H129.out.on hb139).wide hb139.size
    have H153 : Hid (ZAt X137 X137.heap.size (.slice uaL mL.length ucL) mL) := (H130.out.on hb139).wide hb139.size
    have H154 : Hid (NAt 3 X137 X137.heap.size (.slice vaX nX vcX) nX lsX) := (H131.out.on hb139).wide hb139.size
    have H155 : Hid (ZAt X137 X137.heap.size (.slice uaX mX.length ucX) mX) := (H132.out.on hb139).wide hb139.size
    clear H117 H118 H119 H120 H121 H122 H123 H124 H125 H126 H127 H128 H129 H130 H131 H132
    have H156 : Hid (Blk X137 wq.heap.size 26 #[.int .i64 wiX, .int .i64 puX, .slice vaX nX vcX]) := hq138
    clear hb139 hq138 hV134 hb135 hs136
    refine (iQuot_any wiX puX HWX.out vaX nX vcX (by omega) lsX (le16 HLX.out) uaX ucX mX (by omega) _ H154.out H155.out).mono ?_
    rintro e w157 ⟨q158, rfl, hq159, hb160⟩
    obtain ⟨ra161, rc162, hv163⟩ := row_form hq159.1
    subst hv163
    have H164 : Hid (ArgAt w157 a len w157.heap.size) := (H140.out.on hb160).widenT hb160.size
    have H165 : Hid (Below w.heap.size w w157) := H141.out.trans (hb160.mono H141.out.size)
    have H166 : Hid (NAt 3 w157 w157.heap.size (.slice vaS nS vcS) nS lsS) := (H142.out.on hb160).wide hb160.size
    have H167 : Hid (Blk w157 w1.heap.size 26 #[.int .i64 wiS, .int .i64 puS, .slice vaS nS vcS]) := H143.out.on hb160 H143.out.lt
    have H168 : Hid (NAt 1 w157 w157.heap.size (.slice ra24 (qapC wiS puS nS lsS) rc25) (qapC wiS puS nS lsS) (qapN lsS nS 0 (qapC wiS puS nS lsS))) := (H144.out.on hb160).wide hb160.size
    have H169 : Hid (NAt 1 w157 w157.heap.size (.slice ra27 (qapC wiS puS nS lsS) rc28) (qapC wiS puS nS lsS) (qapN lsS nS 1 (qapC wiS puS nS lsS))) := (H145.out.on hb160).wide hb160.size
    have H170 : Hid (NAt 1 w157 w157.heap.size (.slice ra30 (qapC wiS puS nS lsS) rc31) (qapC wiS puS nS lsS) (qapN lsS nS 2 (qapC wiS puS nS lsS))) := (H146.out.on hb160).wide hb160.size
    have H171 : Hid (Blk w157 w15.heap.size 41 #[.slice ra24 (qapC wiS puS nS lsS) rc25, .slice ra27 (qapC wiS puS nS lsS) rc28, .slice ra30 (qapC wiS puS nS lsS) rc31]) := H147.out.on hb160 H147.out.lt
    have H172 : Hid (NAt 1 w157 w157.heap.size (.slice ra64 (qapC wiS puS nS lsS) rc65) (qapC wiS puS nS lsS) (qapN lsS nS 0 (qapC wiS puS nS lsS))) := (H148.out.on hb160).wide hb160.size
    have H173 : Hid (NAt 1 w157 w157.heap.size (.slice ra67 (qapC wiS puS nS lsS) rc68) (qapC wiS puS nS lsS) (qapN lsS nS 1 (qapC wiS puS nS lsS))) := (H149.out.on hb160).wide hb160.size
    have H174 : Hid (NAt 1 w157 w157.heap.size (.slice ra70 (qapC wiS puS nS lsS) rc71) (qapC wiS puS nS lsS) (qapN lsS nS 2 (qapC wiS puS nS lsS))) := (H150.out.on hb160).wide hb160.size
    have H175 : Hid (Blk w157 w55.heap.size 41 #[.slice ra64 (qapC wiS puS nS lsS) rc65, .slice ra67 (qapC wiS puS nS lsS) rc68, .slice ra70 (qapC wiS puS nS lsS) rc71]) := H151.out.on hb160 H151.out.lt
    have H176 : Hid (NAt 1 w157 w157.heap.size (.slice vaL L.length vcL) L.length L) := (H152.out.on hb160).wide hb160.size
    have H177 : Hid (ZAt w157 w157.heap.size (.slice uaL mL.length ucL) mL) := (H153.out.on hb160).wide hb160.size
    have H178 : Hid (NAt 3 w157 w157.heap.size (.slice vaX nX vcX) nX lsX) := (H154.out.on hb160).wide hb160.size
    have H179 : Hid (ZAt w157 w157.heap.size (.slice uaX mX.length ucX) mX) := (H155.out.on hb160).wide hb160.size
    have H180 : Hid (Blk w157 wq.heap.size 26 #[.int .i64 wiX, .int .i64 puX, .slice vaX nX vcX]) := H156.out.on hb160 H156.out.lt
    clear H140 H141 H142 H143 H144 H145 H146 H147 H148 H149 H150 H151 H152 H153 H154 H155 H156 hb160
    have H181 : Hid (ZAt w157 w157.heap.size (.slice ra161 (quotL wiX puX nX lsX mX).length rc162) (quotL wiX puX nX lsX mX)) := hq159.at
    clear hq159
    have hsX := H180.out
    go_wp2_with (refine load_blk rfl rfl rfl hsX Try.underlying26 infoSy ?_)
    clear hsX
    refine (sQuot_any wiX puX HWX.out vaX nX vcX (by omega) lsX (le16 HLX.out) uaX ucX mX (by omega) _ H178.out H179.out).mono ?_
    rintro e w182 ⟨q183, rfl, hq184, hb185⟩
    obtain ⟨ra186, rc187, hv188⟩ := row_form hq184.1
    subst hv188
    have H189 : Hid (ArgAt w182 a len w182.heap.size) := (H164.out.on hb185).widenT hb185.size
    have H190 : Hid (Below w.heap.size w w182) := H165.out.trans (hb185.mono H165.out.size)
    have H191 : Hid (NAt 3 w182 w182.heap.size (.slice vaS nS vcS) nS lsS) := (H166.out.on hb185).wide hb185.size
    have H192 : Hid (Blk w182 w1.heap.size 26 #[.int .i64 wiS, .int .i64 puS, .slice vaS nS vcS]) := H167.out.on hb185 H167.out.lt
    have H193 : Hid (NAt 1 w182 w182.heap.size (.slice ra24 (qapC wiS puS nS lsS) rc25) (qapC wiS puS nS lsS) (qapN lsS nS 0 (qapC wiS puS nS lsS))) := (H168.out.on hb185).wide hb185.size
    have H194 : Hid (NAt 1 w182 w182.heap.size (.slice ra27 (qapC wiS puS nS lsS) rc28) (qapC wiS puS nS lsS) (qapN lsS nS 1 (qapC wiS puS nS lsS))) := (H169.out.on hb185).wide hb185.size
    have H195 : Hid (NAt 1 w182 w182.heap.size (.slice ra30 (qapC wiS puS nS lsS) rc31) (qapC wiS puS nS lsS) (qapN lsS nS 2 (qapC wiS puS nS lsS))) := (H170.out.on hb185).wide hb185.size
    have H196 : Hid (Blk w182 w15.heap.size 41 #[.slice ra24 (qapC wiS puS nS lsS) rc25, .slice ra27 (qapC wiS puS nS lsS) rc28, .slice ra30 (qapC wiS puS nS lsS) rc31]) := H171.out.on hb185 H171.out.lt
    have H197 : Hid (NAt 1 w182 w182.heap.size (.slice ra64 (qapC wiS puS nS lsS) rc65) (qapC wiS puS nS lsS) (qapN lsS nS 0 (qapC wiS puS nS lsS))) := (H172.out.on hb185).wide hb185.size
    have H198 : Hid (NAt 1 w182 w182.heap.size (.slice ra67 (qapC wiS puS nS lsS) rc68) (qapC wiS puS nS lsS) (qapN lsS nS 1 (qapC wiS puS nS lsS))) := (H173.out.on hb185).wide hb185.size
    have H199 : Hid (NAt 1 w182 w182.heap.size (.slice ra70 (qapC wiS puS nS lsS) rc71) (qapC wiS puS nS lsS) (qapN lsS nS 2 (qapC wiS puS nS lsS))) := (H174.out.on hb185).wide hb185.size
    have H200 : Hid (Blk w182 w55.heap.size 41 #[.slice ra64 (qapC wiS puS nS lsS) rc65, .slice ra67 (qapC wiS puS nS lsS) rc68, .slice ra70 (qapC wiS puS nS lsS) rc71]) := H175.out.on hb185 H175.out.lt
    have H201 : Hid (NAt 1 w182 w182.heap.size (.slice vaL L.length vcL) L.length L) := (H176.out.on hb185).wide hb185.size
    have H202 : Hid (ZAt w182 w182.heap.size (.slice uaL mL.length ucL) mL) := (H177.out.on hb185).wide hb185.size
    have H203 : Hid (NAt 3 w182 w182.heap.size (.slice vaX nX vcX) nX lsX) := (H178.out.on hb185).wide hb185.size
    have H204 : Hid (ZAt w182 w182.heap.size (.slice uaX mX.length ucX) mX) := (H179.out.on hb185).wide hb185.size
    have H205 : Hid (Blk w182 wq.heap.size 26 #[.int .i64 wiX, .int .i64 puX, .slice vaX nX vcX]) := H180.out.on hb185 H180.out.lt
    have H206 : Hid (ZAt w182 w182.heap.size (.slice ra161 (quotL wiX puX nX lsX mX).length rc162) (quotL wiX puX nX lsX mX)) := (H181.out.on hb185).wide hb185.size
    clear H164 H165 H166 H167 H168 H169 H170 H171 H172 H173 H174 H175 H176 H177 H178 H179 H180 H181 hb185
    have H207 : Hid (ZAt w182 w182.heap.size (.slice ra186 (quotL wiX puX nX lsX mX).length rc187) (quotL wiX puX nX lsX mX)) := hq184.at
    clear hq184
    go_wp2_with fail
    refine (holdsD_any len cap a hm1 _ H189.out).mono ?_
    rintro e wh ⟨wiZ, puZ, vZ, uZ, nZ, lsZ, mZ, xZ, rfl, hwfZ, hnZ, hlsZ, hmZ, hNZ, hZZ, hbh⟩
    obtain ⟨_, vaZ, vcZ, hvZ, _⟩ := id hNZ
    subst hvZ
    obtain ⟨uaZ, ucZ, huZ, _⟩ := id hZZ
    subst huZ
    have HWZ : Hid ((Lit.int .i64 wiZ).wf = true) := hwfZ
    have HLZ2 : Hid (∀ j, (lsZ.getD j []).length ≤ 16) := hlsZ
    clear hwfZ hlsZ
    have H208 : Hid (ArgAt wh a len wh.heap.size) := (H189.out.on hbh).widenT hbh.size
    have H209 : Hid (Below w.heap.size w wh) := H190.out.trans (hbh.mono H190.out.size)
    have H210 : Hid (NAt 3 wh wh.heap.size (.slice vaS nS vcS) nS lsS) := (H191.out.on hbh).wide hbh.size
    have H211 : Hid (Blk wh w1.heap.size 26 #[.int .i64 wiS, .int .i64 puS, .slice vaS nS vcS]) := H192.out.on hbh H192.out.lt
    have H212 : Hid (NAt 1 wh wh.heap.size (.slice ra24 (qapC wiS puS nS lsS) rc25) (qapC wiS puS nS lsS) (qapN lsS nS 0 (qapC wiS puS nS lsS))) := (H193.out.on hbh).wide hbh.size
    have H213 : Hid (NAt 1 wh wh.heap.size (.slice ra27 (qapC wiS puS nS lsS) rc28) (qapC wiS puS nS lsS) (qapN lsS nS 1 (qapC wiS puS nS lsS))) := (H194.out.on hbh).wide hbh.size
    have H214 : Hid (NAt 1 wh wh.heap.size (.slice ra30 (qapC wiS puS nS lsS) rc31) (qapC wiS puS nS lsS) (qapN lsS nS 2 (qapC wiS puS nS lsS))) := (H195.out.on hbh).wide hbh.size
    have H215 : Hid (Blk wh w15.heap.size 41 #[.slice ra24 (qapC wiS puS nS lsS) rc25, .slice ra27 (qapC wiS puS nS lsS) rc28, .slice ra30 (qapC wiS puS nS lsS) rc31]) := H196.out.on hbh H196.out.lt
    have H216 : Hid (NAt 1 wh wh.heap.size (.slice ra64 (qapC wiS puS nS lsS) rc65) (qapC wiS puS nS lsS) (qapN lsS nS 0 (qapC wiS puS nS lsS))) := (H197.out.on hbh).wide hbh.size
    have H217 : Hid (NAt 1 wh wh.heap.size (.slice ra67 (qapC wiS puS nS lsS) rc68) (qapC wiS puS nS lsS) (qapN lsS nS 1 (qapC wiS puS nS lsS))) := (H198.out.on hbh).wide hbh.size
    have H218 : Hid (NAt 1 wh wh.heap.size (.slice ra70 (qapC wiS puS nS lsS) rc71) (qapC wiS puS nS lsS) (qapN lsS nS 2 (qapC wiS puS nS lsS))) := (H199.out.on hbh).wide hbh.size
    have H219 : Hid (Blk wh w55.heap.size 41 #[.slice ra64 (qapC wiS puS nS lsS) rc65, .slice ra67 (qapC wiS puS nS lsS) rc68, .slice ra70 (qapC wiS puS nS lsS) rc71]) := H200.out.on hbh H200.out.lt
    have H220 : Hid (NAt 1 wh wh.heap.size (.slice vaL L.length vcL) L.length L) := (H201.out.on hbh).wide hbh.size
    have H221 : Hid (ZAt wh wh.heap.size (.slice uaL mL.length ucL) mL) := (H202.out.on hbh).wide hbh.size
    have H222 : Hid (NAt 3 wh wh.heap.size (.slice vaX nX vcX) nX lsX) := (H203.out.on hbh).wide hbh.size
    have H223 : Hid (ZAt wh wh.heap.size (.slice uaX mX.length ucX) mX) := (H204.out.on hbh).wide hbh.size
    have H224 : Hid (Blk wh wq.heap.size 26 #[.int .i64 wiX, .int .i64 puX, .slice vaX nX vcX]) := H205.out.on hbh H205.out.lt
    have H225 : Hid (ZAt wh wh.heap.size (.slice ra161 (quotL wiX puX nX lsX mX).length rc162) (quotL wiX puX nX lsX mX)) := (H206.out.on hbh).wide hbh.size
    have H226 : Hid (ZAt wh wh.heap.size (.slice ra186 (quotL wiX puX nX lsX mX).length rc187) (quotL wiX puX nX lsX mX)) := (H207.out.on hbh).wide hbh.size
    clear H189 H190 H191 H192 H193 H194 H195 H196 H197 H198 H199 H200 H201 H202 H203 H204 H205 H206 H207 hbh
    have H227 : Hid (NAt 3 wh wh.heap.size (.slice vaZ nZ vcZ) nZ lsZ) := hNZ
    have H228 : Hid (ZAt wh wh.heap.size (.slice uaZ mZ.length ucZ) mZ) := hZZ
    clear hNZ hZZ
    unfold sysV
    obtain ⟨V229, hV230, hb231, hs232⟩ := box1 wh 26 #[.int .i64 0, .int .i64 0, .slice none 0 0]
    go_wp2_with (refine store_blkS (cs' := #[.int .i64 wiZ, .int .i64 puZ, .slice vaZ nZ vcZ]) rfl rfl rfl rfl rfl hs232 infoSy rfl (onesSy _ _ _ _ _) ?_; intro X233 hq234 hheap hoth hbel; have hb235 := hbel _ _ (Nat.le_refl _) hb231; clear hoth hbel hheap)
    have hltX233 : wh.heap.size < X233.heap.size := hq234.lt
    have H236 : Hid (ArgAt X233 a len X233.heap.size) := (H208.out.on hb235).widenT hb235.size
    have H237 : Hid (Below w.heap.size w X233) := H209.out.trans (hb235.mono H209.out.size)
    have H238 : Hid (NAt 3 X233 X233.heap.size (.slice vaS nS vcS) nS lsS) := (H210.out.on hb235).wide hb235.size
    have H239 : Hid (Blk X233 w1.heap.size 26 #[.int .i64 wiS, .int .i64 puS, .slice vaS nS vcS]) := H211.out.on hb235 H211.out.lt
    have H240 : Hid (NAt 1 X233 X233.heap.size (.slice ra24 (qapC wiS puS nS lsS) rc25) (qapC wiS puS nS lsS) (qapN lsS nS 0 (qapC wiS puS nS lsS))) := (H212.out.on hb235).wide hb235.size
    have H241 : Hid (NAt 1 X233 X233.heap.size (.slice ra27 (qapC wiS puS nS lsS) rc28) (qapC wiS puS nS lsS) (qapN lsS nS 1 (qapC wiS puS nS lsS))) := (H213.out.on hb235).wide hb235.size
    have H242 : Hid (NAt 1 X233 X233.heap.size (.slice ra30 (qapC wiS puS nS lsS) rc31) (qapC wiS puS nS lsS) (qapN lsS nS 2 (qapC wiS puS nS lsS))) := (H214.out.on hb235).wide hb235.size
    have H243 : Hid (Blk X233 w15.heap.size 41 #[.slice ra24 (qapC wiS puS nS lsS) rc25, .slice ra27 (qapC wiS puS nS lsS) rc28, .slice ra30 (qapC wiS puS nS lsS) rc31]) := H215.out.on hb235 H215.out.lt
    have H244 : Hid (NAt 1 X233 X233.heap.size (.slice ra64 (qapC wiS puS nS lsS) rc65) (qapC wiS puS nS lsS) (qapN lsS nS 0 (qapC wiS puS nS lsS))) := (H216.out.on hb235).wide hb235.size
    have H245 : Hid (NAt 1 X233 X233.heap.size (.slice ra67 (qapC wiS puS nS lsS) rc68) (qapC wiS puS nS lsS) (qapN lsS nS 1 (qapC wiS puS nS lsS))) := (H217.out.on hb235).wide hb235.size
    have H246 : Hid (NAt 1 X233 X233.heap.size (.slice ra70 (qapC wiS puS nS lsS) rc71) (qapC wiS puS nS lsS) (qapN lsS nS 2 (qapC wiS puS nS lsS))) := (H218.out.on hb235).wide hb235.size
    have H247 : Hid (Blk X233 w55.heap.size 41 #[.slice ra64 (qapC wiS puS nS lsS) rc65, .slice ra67 (qapC wiS puS nS lsS) rc68, .slice ra70 (qapC wiS puS nS lsS) rc71]) := H219.out.on hb235 H219.out.lt
    have H248 : Hid (NAt 1 X233 X233.heap.size (.slice vaL L.length vcL) L.length L) := (H220.out.on hb235).wide hb235.size
    have H249 : Hid (ZAt X233 X233.heap.size (.slice uaL mL.length ucL) mL) := (H221.out.on hb235).wide hb235.size
    have H250 : Hid (NAt 3 X233 X233.heap.size (.slice vaX nX vcX) nX lsX) := (H222.out.on hb235).wide hb235.size
    have H251 : Hid (ZAt X233 X233.heap.size (.slice uaX mX.length ucX) mX) := (H223.out.on hb235).wide hb235.size
    have H252 : Hid (Blk X233 wq.heap.size 26 #[.int .i64 wiX, .int .i64 puX, .slice vaX nX vcX]) := H224.out.on hb235 H224.out.lt
    have H253 : Hid (ZAt X233 X233.heap.size (.slice ra161 (quotL wiX puX nX lsX mX).length rc162) (quotL wiX puX nX lsX mX)) := (H225.out.on hb235).wide hb235.size
    have H254 : Hid (ZAt X233 X233.heap.size (.slice ra186 (quotL wiX puX nX lsX mX).length rc187) (quotL wiX puX nX lsX mX)) := (H226.out.on hb235).wide hb235.size
    have H255 : Hid (NAt 3 X233 X233.heap.size (.slice vaZ nZ vcZ) nZ lsZ) := (H227.out.on hb235).wide hb235.size
    have H256 : Hid (ZAt X233 X233.heap.size (.slice uaZ mZ.length ucZ) mZ) := (H228.out.on hb235).wide hb235.size
    clear H208 H209 H210 H211 H212 H213 H214 H215 H216 H217 H218 H219 H220 H221 H222 H223 H224 H225 H226 H227 H228
    have H257 : Hid (Blk X233 wh.heap.size 26 #[.int .i64 wiZ, .int .i64 puZ, .slice vaZ nZ vcZ]) := hq234
    clear hb235 hq234 hV230 hb231 hs232
    have Cu : Hid (∀ V, Below X233.heap.size X233 V → Calls Try.prog 24 #[.slice ra24 (qapC wiS puS nS lsS) rc25, .slice ra64 (qapC wiS puS nS lsS) rc65] V fun e w' => e = .returned (.bool true) ∧ Below V.heap.size V w') := fun V hV => sameLs_any _ _ (qapC wiS puS nS lsS) _ (Nat.le_trans (qapC_le wiS puS nS lsS) (by decide)) (fun j => qapN_small _ _ _ _ j) V ((H240.out.on hV).wide hV.size) ((H244.out.on hV).wide hV.size)
    have Cv : Hid (∀ V, Below X233.heap.size X233 V → Calls Try.prog 24 #[.slice ra27 (qapC wiS puS nS lsS) rc28, .slice ra67 (qapC wiS puS nS lsS) rc68] V fun e w' => e = .returned (.bool true) ∧ Below V.heap.size V w') := fun V hV => sameLs_any _ _ (qapC wiS puS nS lsS) _ (Nat.le_trans (qapC_le wiS puS nS lsS) (by decide)) (fun j => qapN_small _ _ _ _ j) V ((H241.out.on hV).wide hV.size) ((H245.out.on hV).wide hV.size)
    have Cx : Hid (∀ V, Below X233.heap.size X233 V → Calls Try.prog 24 #[.slice ra30 (qapC wiS puS nS lsS) rc31, .slice ra70 (qapC wiS puS nS lsS) rc71] V fun e w' => e = .returned (.bool true) ∧ Below V.heap.size V w') := fun V hV => sameLs_any _ _ (qapC wiS puS nS lsS) _ (Nat.le_trans (qapC_le wiS puS nS lsS) (by decide)) (fun j => qapN_small _ _ _ _ j) V ((H242.out.on hV).wide hV.size) ((H246.out.on hV).wide hV.size)
    have CM1 : Hid (∀ V, Below X233.heap.size X233 V → Calls Try.prog 26 #[.slice vaL L.length vcL, .slice uaL mL.length ucL] V fun e w' => ∃ x, e = .returned x ∧ ZOwn V.heap.size w'.heap.size w' x (pMix L mL) ∧ Below V.heap.size V w') := fun V hV => iMixV vaL L.length vcL L (by omega) (fun j => Nat.le_trans (HLZ.out j) (by decide)) _ mL (by omega) V ⟨hLc, ((H248.out.on hV).wide hV.size)⟩ ((H249.out.on hV).wide hV.size)
    have CM2 : Hid (∀ V, Below X233.heap.size X233 V → Calls Try.prog 27 #[.slice vaL L.length vcL, .slice uaL mL.length ucL] V fun e w' => ∃ x, e = .returned x ∧ ZOwn V.heap.size w'.heap.size w' x (pMix L mL) ∧ Below V.heap.size V w') := fun V hV => sMixV vaL L.length vcL L (by omega) (fun j => Nat.le_trans (HLZ.out j) (by decide)) _ mL (by omega) V ⟨hLc, ((H248.out.on hV).wide hV.size)⟩ ((H249.out.on hV).wide hV.size)
    have CI : Hid (∀ (x y : Value) V, ZAt V V.heap.size x (pMix L mL) → ZAt V V.heap.size y (pMix L mL) → Calls Try.prog 25 #[x, y] V fun e w' => e = .returned (.bool true) ∧ Below V.heap.size V w') := fun x y V h1 h2 => sameO_any x y _ (pMix_20 L mL (fun j => Nat.le_trans (HLZ.out j) (by decide))) V h1 h2
    have CH : Hid (∀ V, Below X233.heap.size X233 V → Calls Try.prog 25 #[.slice ra161 (quotL wiX puX nX lsX mX).length rc162, .slice ra186 (quotL wiX puX nX lsX mX).length rc187] V fun e w' => e = .returned (.bool true) ∧ Below V.heap.size V w') := fun V hV => sameO_any _ _ _ (quotL_20 _ _ _ _ _) V ((H253.out.on hV).wide hV.size) ((H254.out.on hV).wide hV.size)
    have CZ1 : Hid (∀ V, Below X233.heap.size X233 V → Calls Try.prog 16 #[.agg #[.int .i64 wiZ, .int .i64 puZ, .slice vaZ nZ vcZ], .slice uaZ mZ.length ucZ, .int .i64 xZ] V fun e w' => e = .returned (.bool (quotB wiZ puZ nZ lsZ mZ)) ∧ Below V.heap.size V w') := fun V hV => iQHolds_any wiZ puZ HWZ.out vaZ nZ vcZ (by omega) lsZ (le16 HLZ2.out) uaZ ucZ mZ (by omega) xZ V ((H255.out.on hV).wide hV.size) ((H256.out.on hV).wide hV.size)
    have CZ2 : Hid (∀ V, Below X233.heap.size X233 V → Calls Try.prog 28 #[.agg #[.int .i64 wiZ, .int .i64 puZ, .slice vaZ nZ vcZ], .slice uaZ mZ.length ucZ, .int .i64 xZ] V fun e w' => e = .returned (.bool (quotB wiZ puZ nZ lsZ mZ)) ∧ Below V.heap.size V w') := fun V hV => sQHolds_any wiZ puZ HWZ.out vaZ nZ vcZ (by omega) lsZ (le16 HLZ2.out) uaZ ucZ mZ (by omega) xZ V ((H255.out.on hV).wide hV.size) ((H256.out.on hV).wide hV.size)
    generalize quotB wiZ puZ nZ lsZ mZ = bZ at CZ1 CZ2
    clear H236
    clear H238
    clear H239
    clear H240
    clear H241
    clear H242
    clear H244
    clear H245
    clear H246
    clear H248
    clear H249
    clear H250
    clear H251
    clear H252
    clear H253
    clear H254
    clear H255
    clear H256
    generalize quotB wiX puX nX lsX mX = bX
    generalize (quotL wiX puX nX lsX mX).length = qlX at CH ⊢
    generalize qapC wiS puS nS lsS = nQ at *
    generalize sysOk wiS puS nS lsS = bS
    generalize mZ.length = mlZ at *
    generalize mL.length = mlL at *
    generalize mX.length = mlX at *
    generalize L.length = nL at *
    have T0 : Below X233.heap.size X233 X233.drew := (Below.refl _ _).drew
    go_wp2_with fail
    refine wp_region_ord [(0, false), (1, false), (2, false), (3, false), (4, false), (5, false), (6, false), (7, false), (8, true), (9, false), (10, false), (11, false), (12, false), (13, false), (14, false), (15, true), (16, false), (17, false), (18, false), (19, false), (20, false), (21, false), (22, true), (23, false), (24, false), (25, false), (26, false), (28, false), (29, false), (27, true), (30, true), (31, true), (32, false), (33, false), (34, false), (35, false), (36, false), (37, false), (38, false), (39, false), (40, false), (41, true), (42, false), (43, false), (44, false), (45, false), (46, false), (48, false), (49, false), (50, false), (47, true), (51, true), (52, false), (53, false), (54, false)] (fun wz => Below X233.heap.size X233 wz) mixesSc (by kernel_rfl) T0 ?_
    repeat (refine ord_float rfl rfl (fun K hK => ⟨_, (fun w' hw => by have q0 := (H243.out.on hw H243.out.lt).cell 0; have q1 :=  (H247.out.on hw H247.out.lt).cell 0; go_simp; exact rfl), ?_⟩); go_simp; refine hK _ ?_; clear hK K)
    refine ord_call rfl rfl (fun K hK => ⟨_, _, (by go_simp <;> first | exact rfl | exact ⟨rfl, rfl⟩), ?_⟩)
    refine (Cu.out _ T0).mono ?_
    rintro e u1 ⟨rfl, hu1⟩
    have T1 := below_then T0 hu1
    refine ⟨_, rfl, T1, ?_⟩
    go_simp
    refine hK _ _ ?_
    clear hK K
    repeat (refine ord_float rfl rfl (fun K hK => ⟨_, (fun w' hw => by have q0 := (H243.out.on hw H243.out.lt).cell 1; have q1 :=  (H247.out.on hw H247.out.lt).cell 1; go_simp; exact rfl), ?_⟩); go_simp; refine hK _ ?_; clear hK K)
    refine ord_call rfl rfl (fun K hK => ⟨_, _, (by go_simp <;> first | exact rfl | exact ⟨rfl, rfl⟩), ?_⟩)
    refine (Cv.out _ T1).mono ?_
    rintro e u2 ⟨rfl, hu2⟩
    have T2 := below_then T1 hu2
    refine ⟨_, rfl, T2, ?_⟩
    go_simp
    refine hK _ _ ?_
    clear hK K
    repeat (refine ord_float rfl rfl (fun K hK => ⟨_, (fun w' hw => by have q0 := (H243.out.on hw H243.out.lt).cell 2; have q1 :=  (H247.out.on hw H247.out.lt).cell 2; go_simp; exact rfl), ?_⟩); go_simp; refine hK _ ?_; clear hK K)
    refine ord_call rfl rfl (fun K hK => ⟨_, _, (by go_simp <;> first | exact rfl | exact ⟨rfl, rfl⟩), ?_⟩)
    refine (Cx.out _ T2).mono ?_
    rintro e u3 ⟨rfl, hu3⟩
    have T3 := below_then T2 hu3
    refine ⟨_, rfl, T3, ?_⟩
    go_simp
    refine hK _ _ ?_
    clear hK K
    repeat (refine ord_float rfl rfl (fun K hK => ⟨_, (fun w' hw => by have q0 := (H257.out.on hw H257.out.lt).cell 0; go_simp; exact rfl), ?_⟩); go_simp; refine hK _ ?_; clear hK K)
    refine ord_call rfl rfl (fun K hK => ⟨_, _, (by go_simp <;> first | exact rfl | exact ⟨rfl, rfl⟩), ?_⟩)
    refine (CM1.out _ T3).mono ?_
    rintro e u4 ⟨x1, rfl, hx1, hu4⟩
    have T4 := below_then T3 hu4
    refine ⟨_, rfl, T4, ?_⟩
    go_simp
    refine hK _ _ ?_
    clear hK K
    refine ord_call rfl rfl (fun K hK => ⟨_, _, (by go_simp <;> first | exact rfl | exact ⟨rfl, rfl⟩), ?_⟩)
    refine (CM2.out _ T4).mono ?_
    rintro e u5 ⟨x2, rfl, hx2, hu5⟩
    have T5 := below_then T4 hu5
    refine ⟨_, rfl, T5, ?_⟩
    go_simp
    refine hK _ _ ?_
    clear hK K
    refine ord_call rfl rfl (fun K hK => ⟨_, _, (by go_simp <;> first | exact rfl | exact ⟨rfl, rfl⟩), ?_⟩)
    refine (CI.out _ _ _ ((hx1.at.on hu5).wide hu5.size) hx2.at).mono ?_
    rintro e u6 ⟨rfl, hu6⟩
    have T6 := below_then T5 hu6
    refine ⟨_, rfl, T6, ?_⟩
    go_simp
    refine hK _ _ ?_
    clear hK K
    clear hx1 hx2 hu1 hu2 hu3 hu4 hu5 hu6 T0 T1 T2 T3 T4 T5 Cu Cv Cx CM1 CM2 CI
    repeat (refine ord_float rfl rfl (fun K hK => ⟨_, (fun w' hw => by have q0 := (H257.out.on hw H257.out.lt).cell 0; go_simp; exact rfl), ?_⟩); go_simp; refine hK _ ?_; clear hK K)
    refine ord_call rfl rfl (fun K hK => ⟨_, _, (by go_simp <;> first | exact rfl | exact ⟨rfl, rfl⟩), ?_⟩)
    refine (CH.out _ T6).mono ?_
    rintro e u7 ⟨rfl, hu7⟩
    have T7 := below_then T6 hu7
    refine ⟨_, rfl, T7, ?_⟩
    go_simp
    refine hK _ _ ?_
    clear hK K
    repeat (refine ord_float rfl rfl (fun K hK => ⟨_, (fun w' hw => by have q0 := (H257.out.on hw H257.out.lt).cell 0; have q1 :=  (H257.out.on hw H257.out.lt).cell 1; have q2 :=  (H257.out.on hw H257.out.lt).cell 2; go_simp; exact rfl), ?_⟩); go_simp; refine hK _ ?_; clear hK K)
    refine ord_call rfl rfl (fun K hK => ⟨_, _, (by go_simp <;> first | exact rfl | exact ⟨rfl, rfl⟩), ?_⟩)
    refine (CZ1.out _ T7).mono ?_
    rintro e u8 ⟨rfl, hu8⟩
    have T8 := below_then T7 hu8
    refine ⟨_, rfl, T8, ?_⟩
    go_simp
    refine hK _ _ ?_
    clear hK K
    refine ord_call rfl rfl (fun K hK => ⟨_, _, (by go_simp <;> first | exact rfl | exact ⟨rfl, rfl⟩), ?_⟩)
    refine (CZ2.out _ T8).mono ?_
    rintro e u9 ⟨rfl, hu9⟩
    have T9 := below_then T8 hu9
    refine ⟨_, rfl, T9, ?_⟩
    go_simp
    refine hK _ _ ?_
    clear hK K
    repeat (refine ord_float rfl rfl (fun K hK => ⟨_, (fun w' hw => by have q0 := (H257.out.on hw H257.out.lt).cell 0; go_simp; exact rfl), ?_⟩); go_simp; refine hK _ ?_; clear hK K)
    refine ord_nil ?_
    have HBF : Hid (Below w.heap.size w u9) := H237.out.trans (T9.mono H237.out.size)
    clear T6 T7 T8 T9 hu7 hu8 hu9 CH CZ1 CZ2
    go_wp2
    go_ret
    exact ⟨by first | rfl | simp, HBF.out⟩

end Go.Proofs.Ytjlijflfepffiaa
