/-
  The walk of the law of proofs.
  (-DROP-: what the seat lacks is left out.)
-/
import Derived.Test.YthnahalboomkoaaGreatProvesPre

namespace Go.Proofs.YthnahalboomkoaaGreat
open Go.RowKit

set_option maxHeartbeats 25600000 in
set_option maxRecDepth 100000 in
theorem lawProves_of (hM : MulC) (a : Option Addr) (len cap : Nat) (hm : len ≤ 9223372036854775807) (w : World) (hA : ArgAt w a len w.heap.size) :
    Calls Tryz.prog 3 #[.slice a len cap] w fun e w' => e = .returned (.bool true) ∧ Below w.heap.size w w' := by
  have HA : Hid (ArgAt w a len w.heap.size) := hA
  clear hA
  by_cases hb : 1048576 < len
  · have hd : decide (1048576 < len) = true := decide_eq_true hb
    go_enter Tryz.func3, Tryz.ntmps3
    go_wp2_with (go_at_call 7; refine (big_any _ _ _ hm _).mono ?_; rintro e w0 ⟨rfl, rfl⟩)
    go_ret
    exact ⟨rfl, Below.refl _ _⟩
  · have hd : decide (1048576 < len) = false := decide_eq_false hb
    have hm1 : len ≤ 1048576 := by omega
    have CB : Hid (∀ w, Calls Tryz.prog 7 #[.slice a len cap] w fun e w' => e = .returned (.bool false) ∧ w = w') := fun w => by rw [← hd]; exact big_any _ _ _ hm w
    clear hb hd hm
    go_enter Tryz.func3, Tryz.ntmps3
    go_wp2_with fail
    go_at_call 7
    refine (CB.out _).mono ?_
    rintro e wz ⟨rfl, rfl⟩
    go_wp2_with fail
    refine (systemD_any len cap a hm1 _ HA.out).mono ?_
    rintro e w1 ⟨wi, pu, vv, uu, n, ls, m, rfl, hdr, hrt, ⟨qa, cm, huu, hcp⟩, hN, hU, hb1⟩
    subst huu
    obtain ⟨hN8, va, vc, hva, hN9⟩ := id hN
    subst hva
    clear hN8 hN9
    obtain ⟨_, _, hqa, hU⟩ := hU
    injection hqa with hqa1 hqa2 hqa3
    subst hqa1 hqa3
    clear hqa2
    have hSd := sides_of hrt.1.1
    obtain ⟨p, hp⟩ : ∃ p, pu.toNat = p := ⟨_, rfl⟩
    obtain ⟨wn, hwn⟩ : ∃ wn, wi.toNat = wn := ⟨_, rfl⟩
    rw [hp, hwn] at hSd
    have epu : pu = (p : Int) := hSd.pu
    have ewi : wi = (wn : Int) := hSd.wi
    have hpw : p + 1 ≤ wn := hSd.told
    have hw20 : wn ≤ 20 := hSd.one.2
    have hn16 := hdr.n1
    have hn1 : 1 ≤ n := hSd.rows.1
    subst epu ewi
    obtain ⟨ml, hml⟩ : ∃ ml, ml = m.length := ⟨_, rfl⟩
    have hmw : ml = wn := by have := wide_len hrt.1.2.1; omega
    rw [← hml] at hcp hU ⊢
    subst hmw
    obtain ⟨b0, o0, hq0, hq1, hq2⟩ := hU 0 (by omega)
    subst hq0
    clear hq1 hq2
    have HRT : Hid (Right1 (ml : Int) (p : Int) n ls m ∧ m.length = ml) := ⟨hrt, hml.symm⟩
    have HWF : Hid ((Lit.int .i64 (ml : Int)).wf = true) := wf_small (by omega) (by omega)
    have HZ : Hid (∀ j, (ls.getD j []).length ≤ 9223372036854775807) := fun j => by
      by_cases hj : j < n * 3
      · have := (hdr.each j hj).2; omega
      · rw [List.getD_eq_getElem?_getD, List.getElem?_eq_none (by rw [hN.1]; omega)]
        exact Nat.zero_le _
    have HLL : Hid (ls.length = n * 3) := hN.1
    have HN1 : Hid (NAt 3 w1 w1.heap.size (.slice va n vc) n ls ∧ IntsAt w1 (some ⟨b0, o0, none⟩) ml w1.heap.size (fun j => m.getD j 0) ∧ Below w.heap.size w w1) := ⟨hN, hU, hb1⟩
    clear hN hU hb1 hdr hrt hSd CB hp hwn hml
    generalize ml = wn at *
    unfold sysV
    obtain ⟨V0, hV0, hbv0, hsv0⟩ := box1 w1 26 #[.int .i64 0, .int .i64 0, .slice none 0 0]
    go_wp2_with (refine store_blkS (cs' := #[.int .i64 (wn : Int), .int .i64 (p : Int), .slice va n vc]) rfl rfl rfl rfl rfl hsv0 infoSy rfl (onesSy _ _ _ _ _) ?_; intro V3 hsy hheap hoth hbel; have hbV3 := hbel _ _ (Nat.le_refl _) hbv0; clear hoth hbel hheap)
    have HBV : Hid (Below w.heap.size w V3) := HN1.out.2.2.trans (hbV3.mono HN1.out.2.2.size)
    have HNV : Hid (NAt 3 V3 V3.heap.size (.slice va n vc) n ls ∧ IntsAt V3 (some ⟨b0, o0, none⟩) wn V3.heap.size (fun j => m.getD j 0)) := ⟨(HN1.out.1.on hbV3).wide hbV3.size, (HN1.out.2.1.on hbV3).wide hbV3.size⟩
    clear hV0 hbv0 hsv0 hbV3 HN1
    refine (toxicD_any len cap a hm1 _ ((HA.out.on HBV.out).widenP HBV.out.size)).mono ?_
    rintro e w2 ⟨ta, al, be, ga, de, rfl, hTD, hb2⟩
    have HTx : Hid (Tox n ta al be ga de) := hTD.tox hn16
    have hsy2 := hsy.on hb2 hsy.lt
    have HB2 : Hid (Below w.heap.size w w2 ∧ NAt 3 w2 w2.heap.size (.slice va n vc) n ls ∧ IntsAt w2 (some ⟨b0, o0, none⟩) wn w2.heap.size (fun j => m.getD j 0)) := ⟨HBV.out.trans (hb2.mono HBV.out.size), (HNV.out.1.on hb2).wide hb2.size, (HNV.out.2.on hb2).wide hb2.size⟩
    clear hb2 hTD hsy HBV HNV
    obtain ⟨V0, hV0, hbv0, hsv0⟩ := box1 w2 31 #[.int .i64 0, .int .i64 0, .int .i64 0, .int .i64 0, .int .i64 0]
    go_wp2_with (refine store_blkS (cs' := #[.int .i64 ta, .int .i64 al, .int .i64 be, .int .i64 ga, .int .i64 de]) rfl rfl rfl rfl rfl hsv0 infoTxD rfl (ones5d _ _ _ _ _) ?_; intro V4 htx hheap hoth hbel; have hbV4 := hbel _ _ (Nat.le_refl _) hbv0; clear hoth hbel hheap)
    have hsy4 := hsy2.on hbV4 hsy2.lt
    have HB4 : Hid (Below w.heap.size w V4 ∧ NAt 3 V4 V4.heap.size (.slice va n vc) n ls ∧ IntsAt V4 (some ⟨b0, o0, none⟩) wn V4.heap.size (fun j => m.getD j 0)) := ⟨HB2.out.1.trans (hbV4.mono HB2.out.1.size), (HB2.out.2.1.on hbV4).wide hbV4.size, (HB2.out.2.2.on hbV4).wide hbV4.size⟩
    clear hV0 hbv0 hsv0 hbV4 HB2 hsy2
    refine (places_any len cap a hm1 _ ((HA.out.on HB4.out.1).widenP HB4.out.1.size)).mono ?_
    rintro e w5 ⟨g, gp, xs, rfl, hg, hgl, hx, hb5⟩
    have HX5 : Hid (Below w.heap.size w w5 ∧ Blk w5 w1.heap.size 26 #[.int .i64 (wn : Int), .int .i64 (p : Int), .slice va n vc] ∧ Blk w5 w2.heap.size 31 #[.int .i64 ta, .int .i64 al, .int .i64 be, .int .i64 ga, .int .i64 de] ∧ NAt 3 w5 w5.heap.size (.slice va n vc) n ls ∧ IntsAt w5 (some ⟨b0, o0, none⟩) wn w5.heap.size (fun j => m.getD j 0) ∧ g < w5.heap.size ∧ ∀ j, j < 12 → w5.cell? ⟨g, j, none⟩ = some (.int .i64 (xs j : Int))) := ⟨HB4.out.1.trans (hb5.mono HB4.out.1.size), hsy4.on hb5 hsy4.lt, htx.on hb5 htx.lt, (HB4.out.2.1.on hb5).wide hb5.size, (HB4.out.2.2.on hb5).wide hb5.size, hg, fun j hj => (hx j hj).2⟩
    have HXL : Hid (∀ j, j < 12 → xs j < 10000) := fun j hj => (hx j hj).1
    clear hx hb5 HB4 hsy4 htx hg HA hgl
    have hsy5 := HX5.out.2.1
    have htx5 := HX5.out.2.2.1
    go_wp2_with (first | (refine load_blk rfl rfl rfl hsy5 Tryz.underlying26 infoSy ?_) | (refine load_blk rfl rfl rfl htx5 Tryz.underlying31 infoTxD ?_))
    clear hsy5 htx5
    have HTB : Hid (toxB (wn : Int) (p : Int) n ls ta al be ga de = true) := tox_iff.2 ⟨HRT.out.1.1.1, HTx.out⟩
    refine (iMake_of hM (wn : Int) (p : Int) HWF.out va n vc (by omega) ls HZ.out ta al be ga de w5 HX5.out.2.2.2.1).mono ?_
    rintro e w6 (⟨h0, _⟩ | ⟨hz6, U, V, I, L, Z, rfl, hF, hb6⟩)
    · rw [HTB.out] at h0; cases h0
    clear hz6
    rw [Int.toNat_natCast, Int.toNat_natCast] at hF
    obtain ⟨ua, uc, hUv⟩ := row_form (hF.row 0 (by decide))
    replace hUv : U = .slice ua wn uc := hUv
    obtain ⟨xa, xc, hVv⟩ := row_form (hF.row 1 (by decide))
    replace hVv : V = .slice xa wn xc := hVv
    obtain ⟨ia, ic, hIv⟩ := row_form (hF.row 2 (by decide))
    replace hIv : I = .slice ia (p + 1) ic := hIv
    obtain ⟨la, lc, hLv⟩ := row_form (hF.row 3 (by decide))
    replace hLv : L = .slice la (wn - p - 1) lc := hLv
    obtain ⟨za, zc, hZv⟩ := row_form (hF.row 4 (by decide))
    replace hZv : Z = .slice za (n - 1) zc := hZv
    subst hUv hVv hIv hLv hZv
    have hicap : p + 1 ≤ ic := owns_capP (hF.row 2 (by decide))
    have HPT : Hid (∀ (i k : Nat) (a : Option Addr) (c : Nat) (f : Nat → Int), i < 5 → RowP w5.heap.size w6 (.slice a k c) (gxL (zls f k)) → PtsAt w6 a k w6.heap.size (fun j => (gxL (zls f k)).getD j pZ)) := fun i k a c f hi hR => by
      obtain ⟨a', c', hv, hP⟩ := hR.pts
      have hlen : (gxL (zls f k)).length = k := by rw [gxL_len, zls_length]
      rw [hlen] at hP hv
      injection hv with e1
      subst e1
      exact hP
    have hlen : ∀ (f : Nat → Int) (k : Nat), (gxL (zls f k)).length = k := fun f k => by rw [gxL_len, zls_length]
    have qU := HPT.out 0 _ _ _ (kW ls n ta 0) (by decide) (owns_len (hF.row 0 (by decide)) (hlen _ _).symm)
    have qV := HPT.out 1 _ _ _ (kW ls n ta 1) (by decide) (owns_len (hF.row 1 (by decide)) (hlen _ _).symm)
    have qI := HPT.out 2 _ _ _ (kBy ls n ta al be (scInv ga)) (by decide) (owns_len (hF.row 2 (by decide)) (hlen _ _).symm)
    have qL := HPT.out 3 _ _ _ (fun j => kBy ls n ta al be (scInv de) (p + 1 + j)) (by decide) (owns_len (hF.row 3 (by decide)) (hlen _ _).symm)
    have qZ := HPT.out 4 _ _ _ (kZ n ta (scInv de)) (by decide) (owns_len (hF.row 4 (by decide)) (hlen _ _).symm)
    have HPS : Hid (PtsAt w6 ia (p + 1) w6.heap.size (fun j => (gxL (zls (kBy ls n ta al be (scInv ga)) (p + 1))).getD j pZ) ∧ PtsAt w6 ua wn w6.heap.size (fun j => (gxL (zls (kW ls n ta 0) wn)).getD j pZ) ∧ PtsAt w6 xa wn w6.heap.size (fun j => (gxL (zls (kW ls n ta 1) wn)).getD j pZ) ∧ PtsAt w6 la (wn - p - 1) w6.heap.size (fun j => (gxL (zls (fun j => kBy ls n ta al be (scInv de) (p + 1 + j)) (wn - p - 1))).getD j pZ) ∧ PtsAt w6 za (n - 1) w6.heap.size (fun j => (gxL (zls (kZ n ta (scInv de)) (n - 1))).getD j pZ)) := ⟨qI, qU, qV, qL, qZ⟩
    have HX6 : Hid (Below w.heap.size w w6 ∧ Blk w6 w1.heap.size 26 #[.int .i64 (wn : Int), .int .i64 (p : Int), .slice va n vc] ∧ Blk w6 w2.heap.size 31 #[.int .i64 ta, .int .i64 al, .int .i64 be, .int .i64 ga, .int .i64 de] ∧ NAt 3 w6 w6.heap.size (.slice va n vc) n ls ∧ IntsAt w6 (some ⟨b0, o0, none⟩) wn w6.heap.size (fun j => m.getD j 0) ∧ g < w6.heap.size ∧ ∀ j, j < 12 → w6.cell? ⟨g, j, none⟩ = some (.int .i64 (xs j : Int))) := ⟨HX5.out.1.trans (hb6.mono HX5.out.1.size), HX5.out.2.1.on hb6 HX5.out.2.1.lt, HX5.out.2.2.1.on hb6 HX5.out.2.2.1.lt, (HX5.out.2.2.2.1.on hb6).wide hb6.size, (HX5.out.2.2.2.2.1.on hb6).wide hb6.size, Nat.lt_of_lt_of_le HX5.out.2.2.2.2.2.1 hb6.size, fun j hj => (hb6.cell (p := ⟨g, j, none⟩) HX5.out.2.2.2.2.2.1).trans (HX5.out.2.2.2.2.2.2 j hj)⟩
    clear hF hb6 HX5 qU qV qI qL qZ HPT hlen
    obtain ⟨ln, hln⟩ : ∃ ln, wn - p - 1 = ln := ⟨_, rfl⟩
    obtain ⟨zn, hzn⟩ : ∃ zn, n - 1 = zn := ⟨_, rfl⟩
    rw [hln, hzn] at HPS ⊢
    -- the places
    have hx0 := HXL.out 0 (by decide)
    have hx1 := HXL.out 1 (by decide)
    obtain ⟨y0, hy0⟩ : ∃ y, xs 0 % 1009 = y := ⟨_, rfl⟩
    obtain ⟨y1, hy1⟩ : ∃ y, xs 1 % 1009 = y := ⟨_, rfl⟩
    have htm0 : Int.tmod (xs 0 : Int) 1009 = (y0 : Int) := by rw [Int.tmod_eq_emod_of_nonneg (by omega)]; omega
    have hb0 : y0 < 1009 := by omega
    have hb1 : y1 < 1009 := by omega
    have htm1 : Int.tmod (xs 1 : Int) 1009 = (y1 : Int) := by rw [Int.tmod_eq_emod_of_nonneg (by omega)]; omega
    obtain ⟨ea, eb, ec, hTold⟩ := told_of (w := w) (sb := w1.heap.size) (tb := w2.heap.size) (gm := w6.heap.size) (va := va) (vc := vc) (g := g) (xs := xs) (b0 := b0) (o0 := o0) (ia := ia) (ic := ic) (ua := ua) (uc := uc) (xa := xa) (xc := xc) (la := la) (ln := ln) (lc := lc) (za := za) (zn := zn) (zc := zc) (cm := cm) HRT.out.1 HLL.out HZ.out HTx.out (by omega) (by omega) hicap HRT.out.2 hcp (y0 : Int) (y1 : Int) (by omega) (by omega)
    obtain ⟨S, hSd⟩ : ∃ S : World → Prop, S = PSt w w1.heap.size w2.heap.size w6.heap.size wn p va n vc ls ta al be ga de g xs b0 o0 m ia ic ua uc xa xc la ln lc za zn zc := ⟨_, rfl⟩
    rw [← hSd] at hTold
    have HSI : Hid (∀ X, Below w.heap.size w X → Blk X w1.heap.size 26 #[.int .i64 (wn : Int), .int .i64 (p : Int), .slice va n vc] → Blk X w2.heap.size 31 #[.int .i64 ta, .int .i64 al, .int .i64 be, .int .i64 ga, .int .i64 de] → Blk X w6.heap.size 40 #[.int .i64 (gx al).1, .int .i64 (gx al).2.1, .bool (gx al).2.2, .int .i64 (gx be).1, .int .i64 (gx be).2.1, .bool (gx be).2.2, .int .i64 (gx ga).1, .int .i64 (gx ga).2.1, .bool (gx ga).2.2, .int .i64 (gx de).1, .int .i64 (gx de).2.1, .bool (gx de).2.2, .slice ia (p + 1) ic, .slice ua wn uc, .slice xa wn xc, .slice la ln lc, .slice za zn zc] → Below w6.heap.size w6 X → S X) := fun X h1 h2 h3 h4 h5 => by
      rw [hSd]
      exact ⟨h1, h2, h3, h4, (HX6.out.2.2.2.1.on h5).wide h5.size, Nat.lt_of_lt_of_le HX6.out.2.2.2.2.2.1 h5.size, fun j hj => (h5.cell (p := ⟨g, j, none⟩) HX6.out.2.2.2.2.2.1).trans (HX6.out.2.2.2.2.2.2 j hj), (HX6.out.2.2.2.2.1.on h5).wide h5.size, (HPS.out.1.on h5).wide h5.size, (HPS.out.2.1.on h5).wide h5.size, (HPS.out.2.2.1.on h5).wide h5.size, (HPS.out.2.2.2.1.on h5).wide h5.size, (HPS.out.2.2.2.2.on h5).wide h5.size⟩
    have HSon : Hid (∀ X Y, S X → Below X.heap.size X Y → S Y) := fun X Y h hb => by rw [hSd] at h ⊢; exact h.on hb
    have HSbel : Hid (∀ X, S X → Below w.heap.size w X) := fun X h => by rw [hSd] at h; exact h.bel
    have HSsys : Hid (∀ X, S X → Blk X w1.heap.size 26 #[.int .i64 (wn : Int), .int .i64 (p : Int), .slice va n vc]) := fun X h => by rw [hSd] at h; exact h.sys
    have HStox : Hid (∀ X, S X → Blk X w2.heap.size 31 #[.int .i64 ta, .int .i64 al, .int .i64 be, .int .i64 ga, .int .i64 de]) := fun X h => by rw [hSd] at h; exact h.tox
    have HSmk0 : Hid (∀ X, S X → Blk X w6.heap.size 40 #[.int .i64 (gx al).1, .int .i64 (gx al).2.1, .bool (gx al).2.2, .int .i64 (gx be).1, .int .i64 (gx be).2.1, .bool (gx be).2.2, .int .i64 (gx ga).1, .int .i64 (gx ga).2.1, .bool (gx ga).2.2, .int .i64 (gx de).1, .int .i64 (gx de).2.1, .bool (gx de).2.2, .slice ia (p + 1) ic, .slice ua wn uc, .slice xa wn xc, .slice la ln lc, .slice za zn zc]) := fun X h => by rw [hSd] at h; exact h.mkr
    have HSlt : Hid (∀ X, S X → g < X.heap.size) := fun X h => by rw [hSd] at h; exact h.lt
    have HSpl : Hid (∀ X, S X → ∀ j, j < 12 → X.cell? ⟨g, j, none⟩ = some (.int .i64 (xs j : Int))) := fun X h => by rw [hSd] at h; exact h.pl
    have HSwit : Hid (∀ X, S X → IntsAt X (some ⟨b0, o0, none⟩) wn X.heap.size (fun j => m.getD j 0)) := fun X h => by rw [hSd] at h; exact h.wit
    obtain ⟨P1, hP1⟩ : ∃ P, P = gx ea := ⟨_, rfl⟩
    obtain ⟨P2, hP2⟩ : ∃ P, P = gx eb := ⟨_, rfl⟩
    obtain ⟨P3, hP3⟩ : ∃ P, P = gx ec := ⟨_, rfl⟩
    rw [← hP1, ← hP2, ← hP3] at hTold
    have CPV : Hid (∀ V, S V → Calls Tryz.prog 12 #[.agg #[.int .i64 (wn : Int), .int .i64 (p : Int), .slice va n vc], .agg #[.int .i64 (gx al).1, .int .i64 (gx al).2.1, .bool (gx al).2.2, .int .i64 (gx be).1, .int .i64 (gx be).2.1, .bool (gx be).2.2, .int .i64 (gx ga).1, .int .i64 (gx ga).2.1, .bool (gx ga).2.2, .int .i64 (gx de).1, .int .i64 (gx de).2.1, .bool (gx de).2.2, .slice ia (p + 1) ic, .slice ua wn uc, .slice xa wn xc, .slice la ln lc, .slice za zn zc], .slice (some ⟨b0, o0, none⟩) wn cm, .int .i64 (y0 : Int), .int .i64 (y1 : Int)] V fun e w' => e = .returned (.tuple #[.agg (prfC P1 P2 P3), .bool true]) ∧ Below V.heap.size V w') := hTold.prove
    have CPO : Hid (∀ (c : Nat) (V : World), S V → Calls Tryz.prog 14 #[.agg #[.int .i64 (gx al).1, .int .i64 (gx al).2.1, .bool (gx al).2.2, .int .i64 (gx be).1, .int .i64 (gx be).2.1, .bool (gx be).2.2, .int .i64 (gx ga).1, .int .i64 (gx ga).2.1, .bool (gx ga).2.2, .int .i64 (gx de).1, .int .i64 (gx de).2.1, .bool (gx de).2.2, .slice ia (p + 1) ic], .slice (some ⟨b0, o0 + 1, none⟩) p c, .agg (prfC P1 P2 P3)] V fun e w' => e = .returned (.bool (!P1.2.2 && !P2.2.2)) ∧ Below V.heap.size V w') := fun c V hV => by
      have h := hTold.right (some ⟨b0, o0 + 1, none⟩) c (tld m p) P1 P2 P3 V hV (tld_len m p) (tld_ints (HSwit.out V hV) hpw)
      rw [hTold.good] at h
      exact h
    have CPZ : Hid (p = 0 → ∀ (c : Nat) (V : World), S V → Calls Tryz.prog 14 #[.agg #[.int .i64 (gx al).1, .int .i64 (gx al).2.1, .bool (gx al).2.2, .int .i64 (gx be).1, .int .i64 (gx be).2.1, .bool (gx be).2.2, .int .i64 (gx ga).1, .int .i64 (gx ga).2.1, .bool (gx ga).2.2, .int .i64 (gx de).1, .int .i64 (gx de).2.1, .bool (gx de).2.2, .slice ia (p + 1) ic], .slice (some ⟨b0, o0, none⟩) p c, .agg (prfC P1 P2 P3)] V fun e w' => e = .returned (.bool (!P1.2.2 && !P2.2.2)) ∧ Below V.heap.size V w') := fun hp0 c V hV => by
      have h := hTold.right (some ⟨b0, o0, none⟩) c (tld m p) P1 P2 P3 V hV (tld_len m p) (fun j hj => absurd hj (by omega))
      rw [hTold.good] at h
      exact h
    have CTX : Hid (∀ V, S V → Calls Tryz.prog 13 #[.agg #[.int .i64 (wn : Int), .int .i64 (p : Int), .slice va n vc], .agg #[.int .i64 ta, .int .i64 al, .int .i64 be, .int .i64 ga, .int .i64 de]] V fun e w' => e = .returned (.bool true) ∧ Below V.heap.size V w') := hTold.toxic
    have hrd := rd_prf hTold.grp
    obtain ⟨tx, htx⟩ : ∃ tx, tx = prfText P1 P2 P3 := ⟨_, rfl⟩
    rw [← htx] at hrd
    have CTT : Hid (∀ V, Calls Tryz.prog 15 #[.agg (prfC P1 P2 P3)] V fun e w' => e = .returned (.tuple #[.string tx, .bool true]) ∧ Below V.heap.size V w') := fun V => by
      have h := iProofText_any P1 P2 P3 V
      rw [hTold.grp, ← htx] at h
      exact h
    have CRP : Hid (∀ V, Calls Tryz.prog 16 #[.string tx] V fun e w' => e = .returned (.tuple #[.agg (prfC P1 P2 P3), .bool true]) ∧ Below V.heap.size V w') := fun V => by
      have h := iRdPrf_any tx (by rw [hrd.2.2]; decide) V
      rw [hrd.1, hrd.2.1] at h
      exact h
    have HT9 : Hid (tx.size = 9) := hrd.2.2
    clear hrd htx
    clear hTold HRT HWF HZ HTB HTx HLL HXL hSd hP1 hP2 hP3 hy0 hy1 hx0 hx1 HSwit hicap
    obtain ⟨V0, hV0, hbv0, hsv0⟩ := box1 w6 40 #[.int .i64 0, .int .i64 0, .bool false, .int .i64 0, .int .i64 0, .bool false, .int .i64 0, .int .i64 0, .bool false, .int .i64 0, .int .i64 0, .bool false, .slice none 0 0, .slice none 0 0, .slice none 0 0, .slice none 0 0, .slice none 0 0]
    unfold mkC
    generalize hgA : gx al = A at CPV CPO CPZ HSI HSmk0
    generalize hgB : gx be = B at CPV CPO CPZ HSI HSmk0
    generalize hgG : gx ga = G at CPV CPO CPZ HSI HSmk0
    generalize hgD : gx de = D at CPV CPO CPZ HSI HSmk0
    clear hgA hgB hgG hgD
    obtain ⟨x1, x2, x3⟩ := P1
    obtain ⟨u1, u2, u3⟩ := P2
    obtain ⟨c1, c2, c3⟩ := P3
    replace CPV : Hid (∀ V, S V → Calls Tryz.prog 12 #[.agg #[.int .i64 (wn : Int), .int .i64 (p : Int), .slice va n vc], .agg #[.int .i64 A.1, .int .i64 A.2.1, .bool A.2.2, .int .i64 B.1, .int .i64 B.2.1, .bool B.2.2, .int .i64 G.1, .int .i64 G.2.1, .bool G.2.2, .int .i64 D.1, .int .i64 D.2.1, .bool D.2.2, .slice ia (p + 1) ic, .slice ua wn uc, .slice xa wn xc, .slice la ln lc, .slice za zn zc], .slice (some ⟨b0, o0, none⟩) wn cm, .int .i64 (y0 : Int), .int .i64 (y1 : Int)] V fun e w' => e = .returned (.tuple #[.agg #[.int .i64 x1, .int .i64 x2, .bool x3, .int .i64 u1, .int .i64 u2, .bool u3, .int .i64 c1, .int .i64 c2, .bool c3], .bool true]) ∧ Below V.heap.size V w') := CPV
    replace CPO : Hid (∀ (c : Nat) (V : World), S V → Calls Tryz.prog 14 #[.agg #[.int .i64 A.1, .int .i64 A.2.1, .bool A.2.2, .int .i64 B.1, .int .i64 B.2.1, .bool B.2.2, .int .i64 G.1, .int .i64 G.2.1, .bool G.2.2, .int .i64 D.1, .int .i64 D.2.1, .bool D.2.2, .slice ia (p + 1) ic], .slice (some ⟨b0, o0 + 1, none⟩) p c, .agg #[.int .i64 x1, .int .i64 x2, .bool x3, .int .i64 u1, .int .i64 u2, .bool u3, .int .i64 c1, .int .i64 c2, .bool c3]] V fun e w' => e = .returned (.bool (!x3 && !u3)) ∧ Below V.heap.size V w') := CPO
    replace CPZ : Hid (p = 0 → ∀ (c : Nat) (V : World), S V → Calls Tryz.prog 14 #[.agg #[.int .i64 A.1, .int .i64 A.2.1, .bool A.2.2, .int .i64 B.1, .int .i64 B.2.1, .bool B.2.2, .int .i64 G.1, .int .i64 G.2.1, .bool G.2.2, .int .i64 D.1, .int .i64 D.2.1, .bool D.2.2, .slice ia (p + 1) ic], .slice (some ⟨b0, o0, none⟩) p c, .agg #[.int .i64 x1, .int .i64 x2, .bool x3, .int .i64 u1, .int .i64 u2, .bool u3, .int .i64 c1, .int .i64 c2, .bool c3]] V fun e w' => e = .returned (.bool (!x3 && !u3)) ∧ Below V.heap.size V w') := CPZ
    replace CTT : Hid (∀ V, Calls Tryz.prog 15 #[.agg #[.int .i64 x1, .int .i64 x2, .bool x3, .int .i64 u1, .int .i64 u2, .bool u3, .int .i64 c1, .int .i64 c2, .bool c3]] V fun e w' => e = .returned (.tuple #[.string tx, .bool true]) ∧ Below V.heap.size V w') := CTT
    replace CRP : Hid (∀ V, Calls Tryz.prog 16 #[.string tx] V fun e w' => e = .returned (.tuple #[.agg #[.int .i64 x1, .int .i64 x2, .bool x3, .int .i64 u1, .int .i64 u2, .bool u3, .int .i64 c1, .int .i64 c2, .bool c3], .bool true]) ∧ Below V.heap.size V w') := CRP
    go_wp2_with (refine store_blkS (cs' := #[.int .i64 A.1, .int .i64 A.2.1, .bool A.2.2, .int .i64 B.1, .int .i64 B.2.1, .bool B.2.2, .int .i64 G.1, .int .i64 G.2.1, .bool G.2.2, .int .i64 D.1, .int .i64 D.2.1, .bool D.2.2, .slice ia (p + 1) ic, .slice ua wn uc, .slice xa wn xc, .slice la ln lc, .slice za zn zc]) rfl rfl rfl rfl rfl hsv0 infoMk rfl (onesMk _ _ _ _ _ _ _ _ _ _ _ _ _ _ _ _ _ _ _) ?_; intro w7 hmk hheap hoth hbel; have hb7 := hbel _ _ (Nat.le_refl _) hbv0; clear hoth hbel hheap)
    have HS7 : Hid (S w7) := HSI.out _ (HX6.out.1.trans (hb7.mono HX6.out.1.size)) (HX6.out.2.1.on hb7 HX6.out.2.1.lt) (HX6.out.2.2.1.on hb7 HX6.out.2.2.1.lt) hmk hb7
    clear hV0 hbv0 hsv0 hb7 hmk HX6 HPS HSI
    have hs7 := HSsys.out _ HS7.out
    have hk7 := HSmk0.out _ HS7.out
    have hl7 := HSlt.out _ HS7.out
    have cl0 := HSpl.out _ HS7.out 0 (by decide)
    have cl1 := HSpl.out _ HS7.out 1 (by decide)
    generalize xs 0 = xs0 at cl0 htm0
    generalize xs 1 = xs1 at cl1 htm1
    go_wp2_with fail
    have T0 : Below w7.heap.size w7 w7.drew := (Below.refl _ _).drew
    refine wp_region_to [(0, false), (1, false), (2, false), (3, false), (4, false), (5, false), (6, false), (7, false), (8, false), (9, false), (10, false)] 7 #[true, true, true, true, true, true, true, true, true, true, true, false, false, false, false, false, false, false] (fun wz => Below w7.heap.size w7 wz) mixes (by kernel_rfl) T0 ?_
    repeat (refine ord_float rfl rfl (fun K hK => ⟨_, (fun w' hw => by have q0 := (hs7.on hw hs7.lt).cell 0; have q1 :=  (hs7.on hw hs7.lt).cell 1; have q2 :=  (hs7.on hw hs7.lt).cell 2; have q3 :=  (hk7.on hw hk7.lt).cell 0; have q4 :=  (hk7.on hw hk7.lt).cell 1; have q5 :=  (hk7.on hw hk7.lt).cell 2; have q6 :=  (hk7.on hw hk7.lt).cell 3; have q7 :=  (hk7.on hw hk7.lt).cell 4; have q8 :=  (hk7.on hw hk7.lt).cell 5; have q9 :=  (hk7.on hw hk7.lt).cell 6; have q10 :=  (hk7.on hw hk7.lt).cell 7; have q11 :=  (hk7.on hw hk7.lt).cell 8; have q12 :=  (hk7.on hw hk7.lt).cell 9; have q13 :=  (hk7.on hw hk7.lt).cell 10; have q14 :=  (hk7.on hw hk7.lt).cell 11; have q15 :=  (hk7.on hw hk7.lt).cell 12; have q16 :=  (hk7.on hw hk7.lt).cell 13; have q17 :=  (hk7.on hw hk7.lt).cell 14; have q18 :=  (hk7.on hw hk7.lt).cell 15; have q19 :=  (hk7.on hw hk7.lt).cell 16; have q20 :=  (hw.cell (p := ⟨g, 0, none⟩) hl7).trans cl0; have q21 :=  (hw.cell (p := ⟨g, 1, none⟩) hl7).trans cl1; go_simp; exact rfl), ?_⟩); go_simp; refine hK _ ?_; clear hK K)
    refine ord_nil ?_
    refine anyH_chn (H := [11, 12, 13, 14, 15, 16, 17]) (LS := [#[true, true, true, true, true, true, true, true, true, true, true, false, false, false, false, false, false, false], #[true, true, true, true, true, true, true, true, true, true, true, true, false, false, false, false, false, false], #[true, true, true, true, true, true, true, true, true, true, true, false, false, false, false, true, false, false], #[true, true, true, true, true, true, true, true, true, true, true, true, true, false, false, false, false, false], #[true, true, true, true, true, true, true, true, true, true, true, true, false, false, false, true, false, false], #[true, true, true, true, true, true, true, true, true, true, true, true, true, true, false, false, false, false], #[true, true, true, true, true, true, true, true, true, true, true, true, true, false, true, false, false, false], #[true, true, true, true, true, true, true, true, true, true, true, true, true, false, false, true, false, false], #[true, true, true, true, true, true, true, true, true, true, true, true, true, true, true, false, false, false], #[true, true, true, true, true, true, true, true, true, true, true, true, true, true, false, true, false, false], #[true, true, true, true, true, true, true, true, true, true, true, true, true, false, true, true, false, false], #[true, true, true, true, true, true, true, true, true, true, true, true, true, true, true, true, false, false], #[true, true, true, true, true, true, true, true, true, true, true, true, true, true, false, true, true, false], #[true, true, true, true, true, true, true, true, true, true, true, true, true, true, true, true, true, false], #[true, true, true, true, true, true, true, true, true, true, true, true, true, true, true, true, true, true]]) (Le := #[true, true, true, true, true, true, true, true, true, true, true, true, true, true, true, true, true, true]) w7 (fun i x _ => pvVr (.agg #[.int .i64 x1, .int .i64 x2, .bool x3, .int .i64 u1, .int .i64 u2, .bool u3, .int .i64 c1, .int .i64 c2, .bool c3]) true (kputProves i) x) (fun _ _ _ => True) (fun _ _ => True) (fun _ _ => True) 11 15 16 44 #[.int .i64 0, .int .i64 0, .bool false, .int .i64 0, .int .i64 0, .bool false, .int .i64 0, .int .i64 0, .bool false] (fun _ => #[.int .i64 x1, .int .i64 x2, .bool x3, .int .i64 u1, .int .i64 u2, .bool u3, .int .i64 c1, .int .i64 c2, .bool c3]) (fun _ _ _ _ _ _ => trivial) (fun _ _ _ _ _ => trivial) (fun _ _ _ => trivial) (fun _ _ _ _ _ _ => trivial) (by kernel_rfl) (by kernel_rfl) (by kernel_rfl) rfl rfl (by kernel_rfl) (fun i hi => by have h0 := first_noneP (k := kputProves) (by kernel_rfl) i hi; exact ⟨fun y => by show pvVr _ _ (kputProves i) _; rw [h0]; exact trivial, trivial⟩) (fun _ _ => trivial) (fun _ _ => trivial) (fun _ _ => trivial) ?_ ?_ ?_ T0 ?_
    · intro L i o v w8 hiH hna hns ho hJ hS hun hall
      rw [putProves v _ rfl rfl rfl rfl rfl rfl rfl rfl]
      simp only [List.mem_cons, List.not_mem_nil, or_false] at hiH
      rcases hiH with rfl | rfl | rfl | rfl | rfl | rfl | rfl <;> obtain rfl := Option.some.inj ho
      · refine .inr ⟨_, _, (by go_simp <;> first | exact rfl | exact ⟨rfl, rfl⟩), ?_⟩
        refine (CPV.out w8 (HSon.out _ _ HS7.out hS)).mono ?_
        rintro e w9 ⟨rfl, hb⟩
        exact ⟨_, rfl, fun _ _ => rfl, fun h => absurd rfl h, fun _ => ⟨trivial, fun _ _ => trivial⟩, hb⟩
      · have e11 : v 11 = .tuple #[.agg #[.int .i64 x1, .int .i64 x2, .bool x3, .int .i64 u1, .int .i64 u2, .bool u3, .int .i64 c1, .int .i64 c2, .bool c3], .bool true] := hJ.val 11 (hall { on := 11, ground := .data } (by simp) rfl) _ (fun _ => rfl)
        rw [e11]
        exact .inl ⟨.tuple #[.agg #[.int .i64 x1, .int .i64 x2, .bool x3, .int .i64 u1, .int .i64 u2, .bool u3, .int .i64 c1, .int .i64 c2, .bool c3], .bool true], (by go_simp <;> rfl), fun _ _ => rfl, trivial, by decide⟩
      · have e12 : v 12 = .tuple #[.agg #[.int .i64 x1, .int .i64 x2, .bool x3, .int .i64 u1, .int .i64 u2, .bool u3, .int .i64 c1, .int .i64 c2, .bool c3], .bool true] := hJ.val 12 (hall { on := 12, ground := .data } (by simp) rfl) _ (fun _ => rfl)
        rw [e12]
        exact .inl ⟨.agg #[.int .i64 x1, .int .i64 x2, .bool x3, .int .i64 u1, .int .i64 u2, .bool u3, .int .i64 c1, .int .i64 c2, .bool c3], (by go_simp <;> rfl), fun _ _ => rfl, trivial, by decide⟩
      · have e12 : v 12 = .tuple #[.agg #[.int .i64 x1, .int .i64 x2, .bool x3, .int .i64 u1, .int .i64 u2, .bool u3, .int .i64 c1, .int .i64 c2, .bool c3], .bool true] := hJ.val 12 (hall { on := 12, ground := .data } (by simp) rfl) _ (fun _ => rfl)
        rw [e12]
        exact .inl ⟨.bool true, (by go_simp <;> rfl), fun _ _ => rfl, trivial, by decide⟩
      · exact absurd rfl hna
      · exact absurd rfl hns
      · have e14 : v 14 = .bool true := hJ.val 14 (hall { on := 14, ground := .data } (by simp) rfl) _ (fun _ => rfl)
        rw [e14]
        exact .inl ⟨.bool true, (by go_simp <;> rfl), fun _ _ => rfl, trivial, by decide⟩
    · intro v w8
      rw [putProves v _ rfl rfl rfl rfl rfl rfl rfl rfl]
      go_simp <;> rfl
    · intro L v w8 gx_ hJ hall hc hg hblk
      have e5 : v 13 = .agg #[.int .i64 x1, .int .i64 x2, .bool x3, .int .i64 u1, .int .i64 u2, .bool u3, .int .i64 c1, .int .i64 c2, .bool c3] := hJ.val 13 (hall { on := 13, ground := .data } (by simp) rfl) _ (fun _ => rfl)
      rw [putProves v _ rfl rfl rfl rfl rfl rfl rfl rfl]
      exact exec_storeR (t := 44) (p := .tmp 9) (u := .tmp 46) rfl (by go_simp <;> exact hg) (by go_simp <;> exact e5) hblk infoPrv rfl (by simp [Value.oneCell'])
    · intro v w8 gq hV _ _ hg hgW hblk hB8
      have e11 : v 11 = .tuple #[.agg #[.int .i64 x1, .int .i64 x2, .bool x3, .int .i64 u1, .int .i64 u2, .bool u3, .int .i64 c1, .int .i64 c2, .bool c3], .bool true] := hV 11 rfl
      have e12 : v 12 = .tuple #[.agg #[.int .i64 x1, .int .i64 x2, .bool x3, .int .i64 u1, .int .i64 u2, .bool u3, .int .i64 c1, .int .i64 c2, .bool c3], .bool true] := hV 12 rfl
      have e13 : v 13 = .agg #[.int .i64 x1, .int .i64 x2, .bool x3, .int .i64 u1, .int .i64 u2, .bool u3, .int .i64 c1, .int .i64 c2, .bool c3] := hV 13 rfl
      have e14 : v 14 = .bool true := hV 14 rfl
      have e17 : v 17 = .bool true := hV 17 rfl
      rw [putProves v _ rfl rfl rfl rfl rfl rfl rfl rfl]
      rw [hg, e11, e12, e13, e14, e17]
      clear hV hg e11 e12 e13 e14 e17
      generalize v 16 = j16
      clear v
      go_simp
      have hS8 := HSon.out _ _ HS7.out hB8
      have hblk' : Blk w8 gq 44 #[.int .i64 x1, .int .i64 x2, .bool x3, .int .i64 u1, .int .i64 u2, .bool u3, .int .i64 c1, .int .i64 c2, .bool c3] := hblk
      have HS8 : Hid (S w8) := hS8
      clear hblk HS7 hs7 hk7 hl7 cl0 cl1 T0 CPV hB8 hgW hS8
      have hs8 := HSsys.out _ HS8.out
      have ht8 := HStox.out _ HS8.out
      have q0 : w8.cell? ⟨w1.heap.size, 0, none⟩ = some (.int .i64 (wn : Int)) := hs8.cell 0
      have q1 : w8.cell? ⟨w1.heap.size, 1, none⟩ = some (.int .i64 (p : Int)) := hs8.cell 1
      have q2 : w8.cell? ⟨w1.heap.size, 2, none⟩ = some (.slice va n vc) := hs8.cell 2
      have r0 : w8.cell? ⟨w2.heap.size, 0, none⟩ = some (.int .i64 ta) := ht8.cell 0
      have r1 : w8.cell? ⟨w2.heap.size, 1, none⟩ = some (.int .i64 al) := ht8.cell 1
      have r2 : w8.cell? ⟨w2.heap.size, 2, none⟩ = some (.int .i64 be) := ht8.cell 2
      have r3 : w8.cell? ⟨w2.heap.size, 3, none⟩ = some (.int .i64 ga) := ht8.cell 3
      have r4 : w8.cell? ⟨w2.heap.size, 4, none⟩ = some (.int .i64 de) := ht8.cell 4
      clear hs8 ht8
      go_wp2_with fail
      clear q0 q1 q2 r0 r1 r2 r3 r4
      refine (CTX.out _ HS8.out).mono ?_
      rintro e w9 ⟨rfl, hb9⟩
      have hblk9 := hblk'.on hb9 hblk'.lt
      have HS9 : Hid (S w9) := HSon.out _ _ HS8.out hb9
      clear hblk' hb9 HS8 CTX
      have q1 : w9.cell? ⟨w1.heap.size, 1, none⟩ = some (.int .i64 (p : Int)) := (HSsys.out _ HS9.out).cell 1
      have hk9 := HSmk0.out _ HS9.out
      have k0 : w9.cell? ⟨w6.heap.size, 0, none⟩ = some (.int .i64 A.1) := hk9.cell 0
      have k1 : w9.cell? ⟨w6.heap.size, 1, none⟩ = some (.int .i64 A.2.1) := hk9.cell 1
      have k2 : w9.cell? ⟨w6.heap.size, 2, none⟩ = some (.bool A.2.2) := hk9.cell 2
      have k3 : w9.cell? ⟨w6.heap.size, 3, none⟩ = some (.int .i64 B.1) := hk9.cell 3
      have k4 : w9.cell? ⟨w6.heap.size, 4, none⟩ = some (.int .i64 B.2.1) := hk9.cell 4
      have k5 : w9.cell? ⟨w6.heap.size, 5, none⟩ = some (.bool B.2.2) := hk9.cell 5
      have k6 : w9.cell? ⟨w6.heap.size, 6, none⟩ = some (.int .i64 G.1) := hk9.cell 6
      have k7 : w9.cell? ⟨w6.heap.size, 7, none⟩ = some (.int .i64 G.2.1) := hk9.cell 7
      have k8 : w9.cell? ⟨w6.heap.size, 8, none⟩ = some (.bool G.2.2) := hk9.cell 8
      have k9 : w9.cell? ⟨w6.heap.size, 9, none⟩ = some (.int .i64 D.1) := hk9.cell 9
      have k10 : w9.cell? ⟨w6.heap.size, 10, none⟩ = some (.int .i64 D.2.1) := hk9.cell 10
      have k11 : w9.cell? ⟨w6.heap.size, 11, none⟩ = some (.bool D.2.2) := hk9.cell 11
      have k12 : w9.cell? ⟨w6.heap.size, 12, none⟩ = some (.slice ia (p + 1) ic) := hk9.cell 12
      clear hk9
      refine (Decidable.em (cm = 1)).symm.elim (fun hc1 => ?_) (fun hc1 => ?_)
      · have hcg : 1 < cm := by omega
        have hpc : p + 1 ≤ cm := by omega
        have hpi : (p : Int) + 1 ≤ (cm : Int) := by omega
        have hp0 : (0 : Int) ≤ (p : Int) := by omega
        have hp1 : (p : Int) ≤ 20 := by omega
        clear CPZ
        cases x3
        · cases u3
          · skip
            have r0 : w9.cell? ⟨gq, 0, none⟩ = some (.int .i64 x1) := hblk9.cell 0
            have r1 : w9.cell? ⟨gq, 1, none⟩ = some (.int .i64 x2) := hblk9.cell 1
            have r2 : w9.cell? ⟨gq, 2, none⟩ = some (.bool false) := hblk9.cell 2
            have r3 : w9.cell? ⟨gq, 3, none⟩ = some (.int .i64 u1) := hblk9.cell 3
            have r4 : w9.cell? ⟨gq, 4, none⟩ = some (.int .i64 u2) := hblk9.cell 4
            have r5 : w9.cell? ⟨gq, 5, none⟩ = some (.bool false) := hblk9.cell 5
            have r6 : w9.cell? ⟨gq, 6, none⟩ = some (.int .i64 c1) := hblk9.cell 6
            have r7 : w9.cell? ⟨gq, 7, none⟩ = some (.int .i64 c2) := hblk9.cell 7
            have r8 : w9.cell? ⟨gq, 8, none⟩ = some (.bool c3) := hblk9.cell 8
            go_wp2_with fail
            clear k0 k1 k2 k3 k4 k5 k6 k7 k8 k9 k10 k11 k12 r0 r1 r2 r3 r4 r5 r6 r7 r8 q1
            refine (CTT.out _).mono ?_
            rintro e w10 ⟨rfl, hb10⟩
            have HS10 : Hid (S w10) := HSon.out _ _ HS9.out hb10
            have hblk10 := hblk9.on hb10 hblk9.lt
            clear hb10 HS9 hblk9
            go_wp2_with fail
            refine (CRP.out _).mono ?_
            rintro e w11 ⟨rfl, hb11⟩
            have HS11 : Hid (S w11) := HSon.out _ _ HS10.out hb11
            have hblk11 := hblk10.on hb11 hblk10.lt
            clear hb11 HS10 hblk10
            obtain ⟨V1, hV1, hbv1, hsv1⟩ := box1 w11 44 #[.int .i64 0, .int .i64 0, .bool false, .int .i64 0, .int .i64 0, .bool false, .int .i64 0, .int .i64 0, .bool false]
            go_wp2_with (refine store_blkS (cs' := #[.int .i64 x1, .int .i64 x2, .bool false, .int .i64 u1, .int .i64 u2, .bool false, .int .i64 c1, .int .i64 c2, .bool c3]) rfl rfl rfl rfl rfl hsv1 infoPrv rfl (by simp [Value.oneCell']) ?_; intro w12 hz12 hheap hoth hbel; have hb12 := hbel _ _ (Nat.le_refl _) hbv1; clear hoth hbel hheap; have HS12 : Hid (S w12) := HSon.out _ _ HS11.out hb12; have hblk12 := hblk11.on hb12 hblk11.lt; have hk12 := HSmk0.out _ HS12.out; have k0 : w12.cell? ⟨w6.heap.size, 0, none⟩ = some (.int .i64 A.1) := hk12.cell 0; have k1 : w12.cell? ⟨w6.heap.size, 1, none⟩ = some (.int .i64 A.2.1) := hk12.cell 1; have k2 : w12.cell? ⟨w6.heap.size, 2, none⟩ = some (.bool A.2.2) := hk12.cell 2; have k3 : w12.cell? ⟨w6.heap.size, 3, none⟩ = some (.int .i64 B.1) := hk12.cell 3; have k4 : w12.cell? ⟨w6.heap.size, 4, none⟩ = some (.int .i64 B.2.1) := hk12.cell 4; have k5 : w12.cell? ⟨w6.heap.size, 5, none⟩ = some (.bool B.2.2) := hk12.cell 5; have k6 : w12.cell? ⟨w6.heap.size, 6, none⟩ = some (.int .i64 G.1) := hk12.cell 6; have k7 : w12.cell? ⟨w6.heap.size, 7, none⟩ = some (.int .i64 G.2.1) := hk12.cell 7; have k8 : w12.cell? ⟨w6.heap.size, 8, none⟩ = some (.bool G.2.2) := hk12.cell 8; have k9 : w12.cell? ⟨w6.heap.size, 9, none⟩ = some (.int .i64 D.1) := hk12.cell 9; have k10 : w12.cell? ⟨w6.heap.size, 10, none⟩ = some (.int .i64 D.2.1) := hk12.cell 10; have k11 : w12.cell? ⟨w6.heap.size, 11, none⟩ = some (.bool D.2.2) := hk12.cell 11; have k12 : w12.cell? ⟨w6.heap.size, 12, none⟩ = some (.slice ia (p + 1) ic) := hk12.cell 12; have r0 : w12.cell? ⟨gq, 0, none⟩ = some (.int .i64 x1) := hblk12.cell 0; have r1 : w12.cell? ⟨gq, 1, none⟩ = some (.int .i64 x2) := hblk12.cell 1; have r2 : w12.cell? ⟨gq, 2, none⟩ = some (.bool false) := hblk12.cell 2; have r3 : w12.cell? ⟨gq, 3, none⟩ = some (.int .i64 u1) := hblk12.cell 3; have r4 : w12.cell? ⟨gq, 4, none⟩ = some (.int .i64 u2) := hblk12.cell 4; have r5 : w12.cell? ⟨gq, 5, none⟩ = some (.bool false) := hblk12.cell 5; have r6 : w12.cell? ⟨gq, 6, none⟩ = some (.int .i64 c1) := hblk12.cell 6; have r7 : w12.cell? ⟨gq, 7, none⟩ = some (.int .i64 c2) := hblk12.cell 7; have r8 : w12.cell? ⟨gq, 8, none⟩ = some (.bool c3) := hblk12.cell 8; clear hk12)
            clear k0 k1 k2 k3 k4 k5 k6 k7 k8 k9 k10 k11 k12 r0 r1 r2 r3 r4 r5 r6 r7 r8 hV1 hbv1 hsv1 hb12 hblk11 HS11
            refine (CPO.out _ _ HS12.out).mono ?_
            rintro e w13 ⟨rfl, hb13⟩
            have hblk13 := hblk12.on hb13 hblk12.lt
            have hz13 := hz12.on hb13 hz12.lt
            have hBe := (HSbel.out _ HS12.out).trans (hb13.mono (HSbel.out _ HS12.out).size)
            have r0 : w13.cell? ⟨gq, 0, none⟩ = some (.int .i64 x1) := hblk13.cell 0
            have r1 : w13.cell? ⟨gq, 1, none⟩ = some (.int .i64 x2) := hblk13.cell 1
            have r2 : w13.cell? ⟨gq, 2, none⟩ = some (.bool false) := hblk13.cell 2
            have r3 : w13.cell? ⟨gq, 3, none⟩ = some (.int .i64 u1) := hblk13.cell 3
            have r4 : w13.cell? ⟨gq, 4, none⟩ = some (.int .i64 u2) := hblk13.cell 4
            have r5 : w13.cell? ⟨gq, 5, none⟩ = some (.bool false) := hblk13.cell 5
            have r6 : w13.cell? ⟨gq, 6, none⟩ = some (.int .i64 c1) := hblk13.cell 6
            have r7 : w13.cell? ⟨gq, 7, none⟩ = some (.int .i64 c2) := hblk13.cell 7
            have r8 : w13.cell? ⟨gq, 8, none⟩ = some (.bool c3) := hblk13.cell 8
            have s0 : w13.cell? ⟨w11.heap.size, 0, none⟩ = some (.int .i64 x1) := hz13.cell 0
            have s1 : w13.cell? ⟨w11.heap.size, 1, none⟩ = some (.int .i64 x2) := hz13.cell 1
            have s2 : w13.cell? ⟨w11.heap.size, 2, none⟩ = some (.bool false) := hz13.cell 2
            have s3 : w13.cell? ⟨w11.heap.size, 3, none⟩ = some (.int .i64 u1) := hz13.cell 3
            have s4 : w13.cell? ⟨w11.heap.size, 4, none⟩ = some (.int .i64 u2) := hz13.cell 4
            have s5 : w13.cell? ⟨w11.heap.size, 5, none⟩ = some (.bool false) := hz13.cell 5
            have s6 : w13.cell? ⟨w11.heap.size, 6, none⟩ = some (.int .i64 c1) := hz13.cell 6
            have s7 : w13.cell? ⟨w11.heap.size, 7, none⟩ = some (.int .i64 c2) := hz13.cell 7
            have s8 : w13.cell? ⟨w11.heap.size, 8, none⟩ = some (.bool c3) := hz13.cell 8
            have h9 : (tx.size : Int) = 9 := by have := HT9.out; omega
            clear hblk13 hz13 hb13 hblk12 hz12 HS12
            go_wp2
            go_ret
            exact ⟨rfl, hBe⟩
          · skip
            have r0 : w9.cell? ⟨gq, 0, none⟩ = some (.int .i64 x1) := hblk9.cell 0
            have r1 : w9.cell? ⟨gq, 1, none⟩ = some (.int .i64 x2) := hblk9.cell 1
            have r2 : w9.cell? ⟨gq, 2, none⟩ = some (.bool false) := hblk9.cell 2
            have r3 : w9.cell? ⟨gq, 3, none⟩ = some (.int .i64 u1) := hblk9.cell 3
            have r4 : w9.cell? ⟨gq, 4, none⟩ = some (.int .i64 u2) := hblk9.cell 4
            have r5 : w9.cell? ⟨gq, 5, none⟩ = some (.bool true) := hblk9.cell 5
            have r6 : w9.cell? ⟨gq, 6, none⟩ = some (.int .i64 c1) := hblk9.cell 6
            have r7 : w9.cell? ⟨gq, 7, none⟩ = some (.int .i64 c2) := hblk9.cell 7
            have r8 : w9.cell? ⟨gq, 8, none⟩ = some (.bool c3) := hblk9.cell 8
            go_wp2_with fail
            clear k0 k1 k2 k3 k4 k5 k6 k7 k8 k9 k10 k11 k12 r0 r1 r2 r3 r4 r5 r6 r7 r8 q1
            refine (CPO.out _ _ HS9.out).mono ?_
            rintro e w10 ⟨rfl, hb10⟩
            have hBe := (HSbel.out _ HS9.out).trans (hb10.mono (HSbel.out _ HS9.out).size)
            clear hb10 hblk9
            go_wp2
            go_ret
            exact ⟨rfl, hBe⟩
        · skip
          have r0 : w9.cell? ⟨gq, 0, none⟩ = some (.int .i64 x1) := hblk9.cell 0
          have r1 : w9.cell? ⟨gq, 1, none⟩ = some (.int .i64 x2) := hblk9.cell 1
          have r2 : w9.cell? ⟨gq, 2, none⟩ = some (.bool true) := hblk9.cell 2
          have r3 : w9.cell? ⟨gq, 3, none⟩ = some (.int .i64 u1) := hblk9.cell 3
          have r4 : w9.cell? ⟨gq, 4, none⟩ = some (.int .i64 u2) := hblk9.cell 4
          have r5 : w9.cell? ⟨gq, 5, none⟩ = some (.bool u3) := hblk9.cell 5
          have r6 : w9.cell? ⟨gq, 6, none⟩ = some (.int .i64 c1) := hblk9.cell 6
          have r7 : w9.cell? ⟨gq, 7, none⟩ = some (.int .i64 c2) := hblk9.cell 7
          have r8 : w9.cell? ⟨gq, 8, none⟩ = some (.bool c3) := hblk9.cell 8
          go_wp2_with fail
          clear k0 k1 k2 k3 k4 k5 k6 k7 k8 k9 k10 k11 k12 r0 r1 r2 r3 r4 r5 r6 r7 r8 q1
          refine (CPO.out _ _ HS9.out).mono ?_
          rintro e w10 ⟨rfl, hb10⟩
          have hBe := (HSbel.out _ HS9.out).trans (hb10.mono (HSbel.out _ HS9.out).size)
          clear hb10 hblk9
          go_wp2
          go_ret
          exact ⟨rfl, hBe⟩
      · have CP3 : Hid (∀ (c : Nat) (V : World), S V → Calls Tryz.prog 14 #[.agg #[.int .i64 A.1, .int .i64 A.2.1, .bool A.2.2, .int .i64 B.1, .int .i64 B.2.1, .bool B.2.2, .int .i64 G.1, .int .i64 G.2.1, .bool G.2.2, .int .i64 D.1, .int .i64 D.2.1, .bool D.2.2, .slice ia (p + 1) ic], .slice (some ⟨b0, o0, none⟩) 0 c, .agg #[.int .i64 x1, .int .i64 x2, .bool x3, .int .i64 u1, .int .i64 u2, .bool u3, .int .i64 c1, .int .i64 c2, .bool c3]] V fun e w' => e = .returned (.bool (!x3 && !u3)) ∧ Below V.heap.size V w') := fun c V hV => by
          have hpz : p = 0 := by omega
          have h := CPZ.out hpz c V hV
          have e0 : Value.slice (some ⟨b0, o0, none⟩) p c = Value.slice (some ⟨b0, o0, none⟩) 0 c := by rw [hpz]
          rw [e0] at h
          exact h
        have hpi : (p : Int) + 1 ≤ 1 := by omega
        have hpn : p + 1 ≤ 1 := by omega
        have hp0 : (0 : Int) ≤ (p : Int) := by omega
        have hp1 : (p : Int) ≤ 20 := by omega
        clear hpw hcp
        subst hc1
        clear CPO CPZ
        cases x3
        · cases u3
          · skip
            have r0 : w9.cell? ⟨gq, 0, none⟩ = some (.int .i64 x1) := hblk9.cell 0
            have r1 : w9.cell? ⟨gq, 1, none⟩ = some (.int .i64 x2) := hblk9.cell 1
            have r2 : w9.cell? ⟨gq, 2, none⟩ = some (.bool false) := hblk9.cell 2
            have r3 : w9.cell? ⟨gq, 3, none⟩ = some (.int .i64 u1) := hblk9.cell 3
            have r4 : w9.cell? ⟨gq, 4, none⟩ = some (.int .i64 u2) := hblk9.cell 4
            have r5 : w9.cell? ⟨gq, 5, none⟩ = some (.bool false) := hblk9.cell 5
            have r6 : w9.cell? ⟨gq, 6, none⟩ = some (.int .i64 c1) := hblk9.cell 6
            have r7 : w9.cell? ⟨gq, 7, none⟩ = some (.int .i64 c2) := hblk9.cell 7
            have r8 : w9.cell? ⟨gq, 8, none⟩ = some (.bool c3) := hblk9.cell 8
            go_wp2_with fail
            clear k0 k1 k2 k3 k4 k5 k6 k7 k8 k9 k10 k11 k12 r0 r1 r2 r3 r4 r5 r6 r7 r8 q1
            refine (CTT.out _).mono ?_
            rintro e w10 ⟨rfl, hb10⟩
            have HS10 : Hid (S w10) := HSon.out _ _ HS9.out hb10
            have hblk10 := hblk9.on hb10 hblk9.lt
            clear hb10 HS9 hblk9
            go_wp2_with fail
            refine (CRP.out _).mono ?_
            rintro e w11 ⟨rfl, hb11⟩
            have HS11 : Hid (S w11) := HSon.out _ _ HS10.out hb11
            have hblk11 := hblk10.on hb11 hblk10.lt
            clear hb11 HS10 hblk10
            obtain ⟨V1, hV1, hbv1, hsv1⟩ := box1 w11 44 #[.int .i64 0, .int .i64 0, .bool false, .int .i64 0, .int .i64 0, .bool false, .int .i64 0, .int .i64 0, .bool false]
            go_wp2_with (refine store_blkS (cs' := #[.int .i64 x1, .int .i64 x2, .bool false, .int .i64 u1, .int .i64 u2, .bool false, .int .i64 c1, .int .i64 c2, .bool c3]) rfl rfl rfl rfl rfl hsv1 infoPrv rfl (by simp [Value.oneCell']) ?_; intro w12 hz12 hheap hoth hbel; have hb12 := hbel _ _ (Nat.le_refl _) hbv1; clear hoth hbel hheap; have HS12 : Hid (S w12) := HSon.out _ _ HS11.out hb12; have hblk12 := hblk11.on hb12 hblk11.lt; have hk12 := HSmk0.out _ HS12.out; have k0 : w12.cell? ⟨w6.heap.size, 0, none⟩ = some (.int .i64 A.1) := hk12.cell 0; have k1 : w12.cell? ⟨w6.heap.size, 1, none⟩ = some (.int .i64 A.2.1) := hk12.cell 1; have k2 : w12.cell? ⟨w6.heap.size, 2, none⟩ = some (.bool A.2.2) := hk12.cell 2; have k3 : w12.cell? ⟨w6.heap.size, 3, none⟩ = some (.int .i64 B.1) := hk12.cell 3; have k4 : w12.cell? ⟨w6.heap.size, 4, none⟩ = some (.int .i64 B.2.1) := hk12.cell 4; have k5 : w12.cell? ⟨w6.heap.size, 5, none⟩ = some (.bool B.2.2) := hk12.cell 5; have k6 : w12.cell? ⟨w6.heap.size, 6, none⟩ = some (.int .i64 G.1) := hk12.cell 6; have k7 : w12.cell? ⟨w6.heap.size, 7, none⟩ = some (.int .i64 G.2.1) := hk12.cell 7; have k8 : w12.cell? ⟨w6.heap.size, 8, none⟩ = some (.bool G.2.2) := hk12.cell 8; have k9 : w12.cell? ⟨w6.heap.size, 9, none⟩ = some (.int .i64 D.1) := hk12.cell 9; have k10 : w12.cell? ⟨w6.heap.size, 10, none⟩ = some (.int .i64 D.2.1) := hk12.cell 10; have k11 : w12.cell? ⟨w6.heap.size, 11, none⟩ = some (.bool D.2.2) := hk12.cell 11; have k12 : w12.cell? ⟨w6.heap.size, 12, none⟩ = some (.slice ia (p + 1) ic) := hk12.cell 12; have r0 : w12.cell? ⟨gq, 0, none⟩ = some (.int .i64 x1) := hblk12.cell 0; have r1 : w12.cell? ⟨gq, 1, none⟩ = some (.int .i64 x2) := hblk12.cell 1; have r2 : w12.cell? ⟨gq, 2, none⟩ = some (.bool false) := hblk12.cell 2; have r3 : w12.cell? ⟨gq, 3, none⟩ = some (.int .i64 u1) := hblk12.cell 3; have r4 : w12.cell? ⟨gq, 4, none⟩ = some (.int .i64 u2) := hblk12.cell 4; have r5 : w12.cell? ⟨gq, 5, none⟩ = some (.bool false) := hblk12.cell 5; have r6 : w12.cell? ⟨gq, 6, none⟩ = some (.int .i64 c1) := hblk12.cell 6; have r7 : w12.cell? ⟨gq, 7, none⟩ = some (.int .i64 c2) := hblk12.cell 7; have r8 : w12.cell? ⟨gq, 8, none⟩ = some (.bool c3) := hblk12.cell 8; clear hk12)
            clear k0 k1 k2 k3 k4 k5 k6 k7 k8 k9 k10 k11 k12 r0 r1 r2 r3 r4 r5 r6 r7 r8 hV1 hbv1 hsv1 hb12 hblk11 HS11
            refine (CP3.out _ _ HS12.out).mono ?_
            rintro e w13 ⟨rfl, hb13⟩
            have hblk13 := hblk12.on hb13 hblk12.lt
            have hz13 := hz12.on hb13 hz12.lt
            have hBe := (HSbel.out _ HS12.out).trans (hb13.mono (HSbel.out _ HS12.out).size)
            have r0 : w13.cell? ⟨gq, 0, none⟩ = some (.int .i64 x1) := hblk13.cell 0
            have r1 : w13.cell? ⟨gq, 1, none⟩ = some (.int .i64 x2) := hblk13.cell 1
            have r2 : w13.cell? ⟨gq, 2, none⟩ = some (.bool false) := hblk13.cell 2
            have r3 : w13.cell? ⟨gq, 3, none⟩ = some (.int .i64 u1) := hblk13.cell 3
            have r4 : w13.cell? ⟨gq, 4, none⟩ = some (.int .i64 u2) := hblk13.cell 4
            have r5 : w13.cell? ⟨gq, 5, none⟩ = some (.bool false) := hblk13.cell 5
            have r6 : w13.cell? ⟨gq, 6, none⟩ = some (.int .i64 c1) := hblk13.cell 6
            have r7 : w13.cell? ⟨gq, 7, none⟩ = some (.int .i64 c2) := hblk13.cell 7
            have r8 : w13.cell? ⟨gq, 8, none⟩ = some (.bool c3) := hblk13.cell 8
            have s0 : w13.cell? ⟨w11.heap.size, 0, none⟩ = some (.int .i64 x1) := hz13.cell 0
            have s1 : w13.cell? ⟨w11.heap.size, 1, none⟩ = some (.int .i64 x2) := hz13.cell 1
            have s2 : w13.cell? ⟨w11.heap.size, 2, none⟩ = some (.bool false) := hz13.cell 2
            have s3 : w13.cell? ⟨w11.heap.size, 3, none⟩ = some (.int .i64 u1) := hz13.cell 3
            have s4 : w13.cell? ⟨w11.heap.size, 4, none⟩ = some (.int .i64 u2) := hz13.cell 4
            have s5 : w13.cell? ⟨w11.heap.size, 5, none⟩ = some (.bool false) := hz13.cell 5
            have s6 : w13.cell? ⟨w11.heap.size, 6, none⟩ = some (.int .i64 c1) := hz13.cell 6
            have s7 : w13.cell? ⟨w11.heap.size, 7, none⟩ = some (.int .i64 c2) := hz13.cell 7
            have s8 : w13.cell? ⟨w11.heap.size, 8, none⟩ = some (.bool c3) := hz13.cell 8
            have h9 : (tx.size : Int) = 9 := by have := HT9.out; omega
            clear hblk13 hz13 hb13 hblk12 hz12 HS12
            go_wp2
            go_ret
            exact ⟨rfl, hBe⟩
          · skip
            have r0 : w9.cell? ⟨gq, 0, none⟩ = some (.int .i64 x1) := hblk9.cell 0
            have r1 : w9.cell? ⟨gq, 1, none⟩ = some (.int .i64 x2) := hblk9.cell 1
            have r2 : w9.cell? ⟨gq, 2, none⟩ = some (.bool false) := hblk9.cell 2
            have r3 : w9.cell? ⟨gq, 3, none⟩ = some (.int .i64 u1) := hblk9.cell 3
            have r4 : w9.cell? ⟨gq, 4, none⟩ = some (.int .i64 u2) := hblk9.cell 4
            have r5 : w9.cell? ⟨gq, 5, none⟩ = some (.bool true) := hblk9.cell 5
            have r6 : w9.cell? ⟨gq, 6, none⟩ = some (.int .i64 c1) := hblk9.cell 6
            have r7 : w9.cell? ⟨gq, 7, none⟩ = some (.int .i64 c2) := hblk9.cell 7
            have r8 : w9.cell? ⟨gq, 8, none⟩ = some (.bool c3) := hblk9.cell 8
            go_wp2_with fail
            clear k0 k1 k2 k3 k4 k5 k6 k7 k8 k9 k10 k11 k12 r0 r1 r2 r3 r4 r5 r6 r7 r8 q1
            refine (CP3.out _ _ HS9.out).mono ?_
            rintro e w10 ⟨rfl, hb10⟩
            have hBe := (HSbel.out _ HS9.out).trans (hb10.mono (HSbel.out _ HS9.out).size)
            clear hb10 hblk9
            go_wp2
            go_ret
            exact ⟨rfl, hBe⟩
        · skip
          have r0 : w9.cell? ⟨gq, 0, none⟩ = some (.int .i64 x1) := hblk9.cell 0
          have r1 : w9.cell? ⟨gq, 1, none⟩ = some (.int .i64 x2) := hblk9.cell 1
          have r2 : w9.cell? ⟨gq, 2, none⟩ = some (.bool true) := hblk9.cell 2
          have r3 : w9.cell? ⟨gq, 3, none⟩ = some (.int .i64 u1) := hblk9.cell 3
          have r4 : w9.cell? ⟨gq, 4, none⟩ = some (.int .i64 u2) := hblk9.cell 4
          have r5 : w9.cell? ⟨gq, 5, none⟩ = some (.bool u3) := hblk9.cell 5
          have r6 : w9.cell? ⟨gq, 6, none⟩ = some (.int .i64 c1) := hblk9.cell 6
          have r7 : w9.cell? ⟨gq, 7, none⟩ = some (.int .i64 c2) := hblk9.cell 7
          have r8 : w9.cell? ⟨gq, 8, none⟩ = some (.bool c3) := hblk9.cell 8
          go_wp2_with fail
          clear k0 k1 k2 k3 k4 k5 k6 k7 k8 k9 k10 k11 k12 r0 r1 r2 r3 r4 r5 r6 r7 r8 q1
          refine (CP3.out _ _ HS9.out).mono ?_
          rintro e w10 ⟨rfl, hb10⟩
          have hBe := (HSbel.out _ HS9.out).trans (hb10.mono (HSbel.out _ HS9.out).size)
          clear hb10 hblk9
          go_wp2
          go_ret
          exact ⟨rfl, hBe⟩

end Go.Proofs.YthnahalboomkoaaGreat
