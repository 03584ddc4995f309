/-
  The walk of the law of proofs that are told otherwise.
  (-DROP-: what the seat lacks is left out.)
-/
import Derived.Test.YthnahalboomkoaaGreatProvesOthM
import Derived.Test.YthnahalboomkoaaGreatJoined20
import Derived.Test.YthnahalboomkoaaGreatJoined6
import Derived.Test.YthnahalboomkoaaGreatJoined12
import Derived.Test.YthnahalboomkoaaGreatJoined14
import Derived.Test.YthnahalboomkoaaGreatJoined27

namespace Go.Proofs.YthnahalboomkoaaGreat
open Go.RowKit

theorem tld_news {w : World} {b o n c : Nat} {m : List Int} (h : IntsAt w (some ⟨b, o, none⟩) n c (fun j => m.getD j 0)) {p : Nat} (hp : p + 1 ≤ n) : ∀ j q, (zsV (tld m p))[j]? = some q → w.cell? ((⟨b, o + 1, none⟩ : Addr).add j) = some q := fun j q hq => by
  have hI := tld_ints h hp
  have hl : j < p := by
    have h1 : j < (zsV (tld m p)).length := by
      rcases Nat.lt_or_ge j (zsV (tld m p)).length with h2 | h2
      · exact h2
      · rw [List.getElem?_eq_none h2] at hq; cases hq
    rw [zsV, List.length_map, tld_len] at h1
    exact h1
  obtain ⟨b', o', e, _, h2⟩ := hI j hl
  injection e with e
  injection e with e1 e2
  subst e1 e2
  rw [Addr.add_lit, h2, ← hq]
  unfold zsV
  rw [List.getElem?_map]
  have h3 : j < (tld m p).length := by rw [tld_len]; exact hl
  simp [h3]

set_option maxHeartbeats 25600000 in
set_option maxRecDepth 100000 in
theorem lawProvesOther_of (hM : MulC) (a : Option Addr) (len cap : Nat) (hm : len ≤ 9223372036854775807) (w : World) (hA : ArgAt w a len w.heap.size) :
    Calls Tryz.prog 4 #[.slice a len cap] w fun e w' => e = .returned (.bool true) ∧ Below w.heap.size w w' := by
  have HA : Hid (ArgAt w a len w.heap.size) := hA
  clear hA
  by_cases hb : 1048576 < len
  · have hd : decide (1048576 < len) = true := decide_eq_true hb
    go_enter Tryz.func4, Tryz.ntmps4
    go_wp2_with (go_at_call 7; refine (big_any _ _ _ hm _).mono ?_; rintro e w0 ⟨rfl, rfl⟩)
    go_ret
    exact ⟨rfl, Below.refl _ _⟩
  · have hd : decide (1048576 < len) = false := decide_eq_false hb
    have hm1 : len ≤ 1048576 := by omega
    have CB : Hid (∀ w, Calls Tryz.prog 7 #[.slice a len cap] w fun e w' => e = .returned (.bool false) ∧ w = w') := fun w => by rw [← hd]; exact big_any _ _ _ hm w
    clear hb hd hm
    go_enter Tryz.func4, Tryz.ntmps4
    go_wp2_with fail
    go_at_call 7
    refine (CB.out _).mono ?_
    rintro e wz ⟨rfl, rfl⟩
    go_wp2_with fail
    refine (systemD_any len cap a hm1 _ HA.out).mono ?_
    rintro e w1 ⟨wi, pu, vv, uu, n, ls, m, rfl, hdr, hrt, ⟨qa, cm, huu, hcp⟩, hN, hU, hb1⟩
    subst huu
    obtain ⟨hN8, va, vc, hva, hN9⟩ := id hN
    subst hva
    clear hN8 hN9
    obtain ⟨_, _, hqa, hU⟩ := hU
    injection hqa with hqa1 hqa2 hqa3
    subst hqa1 hqa3
    clear hqa2
    have hSd := sides_of hrt.1.1
    obtain ⟨p, hp⟩ : ∃ p, pu.toNat = p := ⟨_, rfl⟩
    obtain ⟨wn, hwn⟩ : ∃ wn, wi.toNat = wn := ⟨_, rfl⟩
    rw [hp, hwn] at hSd
    have epu : pu = (p : Int) := hSd.pu
    have ewi : wi = (wn : Int) := hSd.wi
    have hpw : p + 1 ≤ wn := hSd.told
    have hw20 : wn ≤ 20 := hSd.one.2
    have hn16 := hdr.n1
    have hn1 : 1 ≤ n := hSd.rows.1
    subst epu ewi
    obtain ⟨ml, hml⟩ : ∃ ml, ml = m.length := ⟨_, rfl⟩
    have hmw : ml = wn := by have := wide_len hrt.1.2.1; omega
    rw [← hml] at hcp hU ⊢
    subst hmw
    obtain ⟨b0, o0, hq0, hq1, hq2⟩ := hU 0 (by omega)
    subst hq0
    clear hq1 hq2
    have HRT : Hid (Right1 (ml : Int) (p : Int) n ls m ∧ m.length = ml) := ⟨hrt, hml.symm⟩
    have HWF : Hid ((Lit.int .i64 (ml : Int)).wf = true) := wf_small (by omega) (by omega)
    have HZ : Hid (∀ j, (ls.getD j []).length ≤ 9223372036854775807) := fun j => by
      by_cases hj : j < n * 3
      · have := (hdr.each j hj).2; omega
      · rw [List.getD_eq_getElem?_getD, List.getElem?_eq_none (by rw [hN.1]; omega)]
        exact Nat.zero_le _
    have HLL : Hid (ls.length = n * 3) := hN.1
    have HN1 : Hid (NAt 3 w1 w1.heap.size (.slice va n vc) n ls ∧ IntsAt w1 (some ⟨b0, o0, none⟩) ml w1.heap.size (fun j => m.getD j 0) ∧ Below w.heap.size w w1) := ⟨hN, hU, hb1⟩
    clear hN hU hb1 hdr hrt hSd CB hp hwn hml
    generalize ml = wn at *
    unfold sysV
    obtain ⟨V0, hV0, hbv0, hsv0⟩ := box1 w1 26 #[.int .i64 0, .int .i64 0, .slice none 0 0]
    go_wp2_with (refine store_blkS (cs' := #[.int .i64 (wn : Int), .int .i64 (p : Int), .slice va n vc]) rfl rfl rfl rfl rfl hsv0 infoSy rfl (onesSy _ _ _ _ _) ?_; intro V3 hsy hheap hoth hbel; have hbV3 := hbel _ _ (Nat.le_refl _) hbv0; clear hoth hbel hheap)
    have HBV : Hid (Below w.heap.size w V3) := HN1.out.2.2.trans (hbV3.mono HN1.out.2.2.size)
    have HNV : Hid (NAt 3 V3 V3.heap.size (.slice va n vc) n ls ∧ IntsAt V3 (some ⟨b0, o0, none⟩) wn V3.heap.size (fun j => m.getD j 0)) := ⟨(HN1.out.1.on hbV3).wide hbV3.size, (HN1.out.2.1.on hbV3).wide hbV3.size⟩
    clear hV0 hbv0 hsv0 hbV3 HN1
    refine (toxicD_any len cap a hm1 _ ((HA.out.on HBV.out).widenP HBV.out.size)).mono ?_
    rintro e w2 ⟨ta, al, be, ga, de, rfl, hTD, hb2⟩
    have HTx : Hid (Tox n ta al be ga de) := hTD.tox hn16
    have hsy2 := hsy.on hb2 hsy.lt
    have HB2 : Hid (Below w.heap.size w w2 ∧ NAt 3 w2 w2.heap.size (.slice va n vc) n ls ∧ IntsAt w2 (some ⟨b0, o0, none⟩) wn w2.heap.size (fun j => m.getD j 0)) := ⟨HBV.out.trans (hb2.mono HBV.out.size), (HNV.out.1.on hb2).wide hb2.size, (HNV.out.2.on hb2).wide hb2.size⟩
    clear hb2 hTD hsy HBV HNV
    obtain ⟨V0, hV0, hbv0, hsv0⟩ := box1 w2 31 #[.int .i64 0, .int .i64 0, .int .i64 0, .int .i64 0, .int .i64 0]
    go_wp2_with (refine store_blkS (cs' := #[.int .i64 ta, .int .i64 al, .int .i64 be, .int .i64 ga, .int .i64 de]) rfl rfl rfl rfl rfl hsv0 infoTxD rfl (ones5d _ _ _ _ _) ?_; intro V4 htx hheap hoth hbel; have hbV4 := hbel _ _ (Nat.le_refl _) hbv0; clear hoth hbel hheap)
    have hsy4 := hsy2.on hbV4 hsy2.lt
    have HB4 : Hid (Below w.heap.size w V4 ∧ NAt 3 V4 V4.heap.size (.slice va n vc) n ls ∧ IntsAt V4 (some ⟨b0, o0, none⟩) wn V4.heap.size (fun j => m.getD j 0)) := ⟨HB2.out.1.trans (hbV4.mono HB2.out.1.size), (HB2.out.2.1.on hbV4).wide hbV4.size, (HB2.out.2.2.on hbV4).wide hbV4.size⟩
    clear hV0 hbv0 hsv0 hbV4 HB2 hsy2
    refine (places_any len cap a hm1 _ ((HA.out.on HB4.out.1).widenP HB4.out.1.size)).mono ?_
    rintro e w5 ⟨g, gp, xs, rfl, hg, hgl, hx, hb5⟩
    have HX5 : Hid (Below w.heap.size w w5 ∧ Blk w5 w1.heap.size 26 #[.int .i64 (wn : Int), .int .i64 (p : Int), .slice va n vc] ∧ Blk w5 w2.heap.size 31 #[.int .i64 ta, .int .i64 al, .int .i64 be, .int .i64 ga, .int .i64 de] ∧ NAt 3 w5 w5.heap.size (.slice va n vc) n ls ∧ IntsAt w5 (some ⟨b0, o0, none⟩) wn w5.heap.size (fun j => m.getD j 0) ∧ g < w5.heap.size ∧ ∀ j, j < 12 → w5.cell? ⟨g, j, none⟩ = some (.int .i64 (xs j : Int))) := ⟨HB4.out.1.trans (hb5.mono HB4.out.1.size), hsy4.on hb5 hsy4.lt, htx.on hb5 htx.lt, (HB4.out.2.1.on hb5).wide hb5.size, (HB4.out.2.2.on hb5).wide hb5.size, hg, fun j hj => (hx j hj).2⟩
    have HXL : Hid (∀ j, j < 12 → xs j < 10000) := fun j hj => (hx j hj).1
    clear hx hb5 HB4 hsy4 htx hg HA hgl
    have hsy5 := HX5.out.2.1
    have htx5 := HX5.out.2.2.1
    go_wp2_with (first | (refine load_blk rfl rfl rfl hsy5 Tryz.underlying26 infoSy ?_) | (refine load_blk rfl rfl rfl htx5 Tryz.underlying31 infoTxD ?_))
    clear hsy5 htx5
    have HTB : Hid (toxB (wn : Int) (p : Int) n ls ta al be ga de = true) := tox_iff.2 ⟨HRT.out.1.1.1, HTx.out⟩
    refine (iMake_of hM (wn : Int) (p : Int) HWF.out va n vc (by omega) ls HZ.out ta al be ga de w5 HX5.out.2.2.2.1).mono ?_
    rintro e w6 (⟨h0, _⟩ | ⟨hz6, U, V, I, L, Z, rfl, hF, hb6⟩)
    · rw [HTB.out] at h0; cases h0
    clear hz6
    rw [Int.toNat_natCast, Int.toNat_natCast] at hF
    obtain ⟨ua, uc, hUv⟩ := row_form (hF.row 0 (by decide))
    replace hUv : U = .slice ua wn uc := hUv
    obtain ⟨xa, xc, hVv⟩ := row_form (hF.row 1 (by decide))
    replace hVv : V = .slice xa wn xc := hVv
    obtain ⟨ia, ic, hIv⟩ := row_form (hF.row 2 (by decide))
    replace hIv : I = .slice ia (p + 1) ic := hIv
    obtain ⟨la, lc, hLv⟩ := row_form (hF.row 3 (by decide))
    replace hLv : L = .slice la (wn - p - 1) lc := hLv
    obtain ⟨za, zc, hZv⟩ := row_form (hF.row 4 (by decide))
    replace hZv : Z = .slice za (n - 1) zc := hZv
    subst hUv hVv hIv hLv hZv
    have hicap : p + 1 ≤ ic := owns_capP (hF.row 2 (by decide))
    have HPT : Hid (∀ (i k : Nat) (a : Option Addr) (c : Nat) (f : Nat → Int), i < 5 → RowP w5.heap.size w6 (.slice a k c) (gxL (zls f k)) → PtsAt w6 a k w6.heap.size (fun j => (gxL (zls f k)).getD j pZ)) := fun i k a c f hi hR => by
      obtain ⟨a', c', hv, hP⟩ := hR.pts
      have hlen : (gxL (zls f k)).length = k := by rw [gxL_len, zls_length]
      rw [hlen] at hP hv
      injection hv with e1
      subst e1
      exact hP
    have hlen : ∀ (f : Nat → Int) (k : Nat), (gxL (zls f k)).length = k := fun f k => by rw [gxL_len, zls_length]
    have qU := HPT.out 0 _ _ _ (kW ls n ta 0) (by decide) (owns_len (hF.row 0 (by decide)) (hlen _ _).symm)
    have qV := HPT.out 1 _ _ _ (kW ls n ta 1) (by decide) (owns_len (hF.row 1 (by decide)) (hlen _ _).symm)
    have qI := HPT.out 2 _ _ _ (kBy ls n ta al be (scInv ga)) (by decide) (owns_len (hF.row 2 (by decide)) (hlen _ _).symm)
    have qL := HPT.out 3 _ _ _ (fun j => kBy ls n ta al be (scInv de) (p + 1 + j)) (by decide) (owns_len (hF.row 3 (by decide)) (hlen _ _).symm)
    have qZ := HPT.out 4 _ _ _ (kZ n ta (scInv de)) (by decide) (owns_len (hF.row 4 (by decide)) (hlen _ _).symm)
    have HPS : Hid (PtsAt w6 ia (p + 1) w6.heap.size (fun j => (gxL (zls (kBy ls n ta al be (scInv ga)) (p + 1))).getD j pZ) ∧ PtsAt w6 ua wn w6.heap.size (fun j => (gxL (zls (kW ls n ta 0) wn)).getD j pZ) ∧ PtsAt w6 xa wn w6.heap.size (fun j => (gxL (zls (kW ls n ta 1) wn)).getD j pZ) ∧ PtsAt w6 la (wn - p - 1) w6.heap.size (fun j => (gxL (zls (fun j => kBy ls n ta al be (scInv de) (p + 1 + j)) (wn - p - 1))).getD j pZ) ∧ PtsAt w6 za (n - 1) w6.heap.size (fun j => (gxL (zls (kZ n ta (scInv de)) (n - 1))).getD j pZ)) := ⟨qI, qU, qV, qL, qZ⟩
    have HX6 : Hid (Below w.heap.size w w6 ∧ Blk w6 w1.heap.size 26 #[.int .i64 (wn : Int), .int .i64 (p : Int), .slice va n vc] ∧ Blk w6 w2.heap.size 31 #[.int .i64 ta, .int .i64 al, .int .i64 be, .int .i64 ga, .int .i64 de] ∧ NAt 3 w6 w6.heap.size (.slice va n vc) n ls ∧ IntsAt w6 (some ⟨b0, o0, none⟩) wn w6.heap.size (fun j => m.getD j 0) ∧ g < w6.heap.size ∧ ∀ j, j < 12 → w6.cell? ⟨g, j, none⟩ = some (.int .i64 (xs j : Int))) := ⟨HX5.out.1.trans (hb6.mono HX5.out.1.size), HX5.out.2.1.on hb6 HX5.out.2.1.lt, HX5.out.2.2.1.on hb6 HX5.out.2.2.1.lt, (HX5.out.2.2.2.1.on hb6).wide hb6.size, (HX5.out.2.2.2.2.1.on hb6).wide hb6.size, Nat.lt_of_lt_of_le HX5.out.2.2.2.2.2.1 hb6.size, fun j hj => (hb6.cell (p := ⟨g, j, none⟩) HX5.out.2.2.2.2.2.1).trans (HX5.out.2.2.2.2.2.2 j hj)⟩
    clear hF hb6 HX5 qU qV qI qL qZ HPT hlen
    obtain ⟨ln, hln⟩ : ∃ ln, wn - p - 1 = ln := ⟨_, rfl⟩
    obtain ⟨zn, hzn⟩ : ∃ zn, n - 1 = zn := ⟨_, rfl⟩
    rw [hln, hzn] at HPS ⊢
    -- the places
    have hx0 := HXL.out 0 (by decide)
    have hx1 := HXL.out 1 (by decide)
    obtain ⟨y0, hy0⟩ : ∃ y, xs 0 % 1009 = y := ⟨_, rfl⟩
    obtain ⟨y1, hy1⟩ : ∃ y, xs 1 % 1009 = y := ⟨_, rfl⟩
    have htm0 : Int.tmod (xs 0 : Int) 1009 = (y0 : Int) := by rw [Int.tmod_eq_emod_of_nonneg (by omega)]; omega
    have hb0 : y0 < 1009 := by omega
    have hb1 : y1 < 1009 := by omega
    have htm1 : Int.tmod (xs 1 : Int) 1009 = (y1 : Int) := by rw [Int.tmod_eq_emod_of_nonneg (by omega)]; omega
    obtain ⟨ea, eb, ec, hTold⟩ := told_of (w := w) (sb := w1.heap.size) (tb := w2.heap.size) (gm := w6.heap.size) (va := va) (vc := vc) (g := g) (xs := xs) (b0 := b0) (o0 := o0) (ia := ia) (ic := ic) (ua := ua) (uc := uc) (xa := xa) (xc := xc) (la := la) (ln := ln) (lc := lc) (za := za) (zn := zn) (zc := zc) (cm := cm) HRT.out.1 HLL.out HZ.out HTx.out (by omega) (by omega) hicap HRT.out.2 hcp (y0 : Int) (y1 : Int) (by omega) (by omega)
    obtain ⟨S, hSd⟩ : ∃ S : World → Prop, S = PSt w w1.heap.size w2.heap.size w6.heap.size wn p va n vc ls ta al be ga de g xs b0 o0 m ia ic ua uc xa xc la ln lc za zn zc := ⟨_, rfl⟩
    rw [← hSd] at hTold
    have HSI : Hid (∀ X, Below w.heap.size w X → Blk X w1.heap.size 26 #[.int .i64 (wn : Int), .int .i64 (p : Int), .slice va n vc] → Blk X w2.heap.size 31 #[.int .i64 ta, .int .i64 al, .int .i64 be, .int .i64 ga, .int .i64 de] → Blk X w6.heap.size 40 #[.int .i64 (gx al).1, .int .i64 (gx al).2.1, .bool (gx al).2.2, .int .i64 (gx be).1, .int .i64 (gx be).2.1, .bool (gx be).2.2, .int .i64 (gx ga).1, .int .i64 (gx ga).2.1, .bool (gx ga).2.2, .int .i64 (gx de).1, .int .i64 (gx de).2.1, .bool (gx de).2.2, .slice ia (p + 1) ic, .slice ua wn uc, .slice xa wn xc, .slice la ln lc, .slice za zn zc] → Below w6.heap.size w6 X → S X) := fun X h1 h2 h3 h4 h5 => by
      rw [hSd]
      exact ⟨h1, h2, h3, h4, (HX6.out.2.2.2.1.on h5).wide h5.size, Nat.lt_of_lt_of_le HX6.out.2.2.2.2.2.1 h5.size, fun j hj => (h5.cell (p := ⟨g, j, none⟩) HX6.out.2.2.2.2.2.1).trans (HX6.out.2.2.2.2.2.2 j hj), (HX6.out.2.2.2.2.1.on h5).wide h5.size, (HPS.out.1.on h5).wide h5.size, (HPS.out.2.1.on h5).wide h5.size, (HPS.out.2.2.1.on h5).wide h5.size, (HPS.out.2.2.2.1.on h5).wide h5.size, (HPS.out.2.2.2.2.on h5).wide h5.size⟩
    have HSon : Hid (∀ X Y, S X → Below X.heap.size X Y → S Y) := fun X Y h hb => by rw [hSd] at h ⊢; exact h.on hb
    have HSbel : Hid (∀ X, S X → Below w.heap.size w X) := fun X h => by rw [hSd] at h; exact h.bel
    have HSsys : Hid (∀ X, S X → Blk X w1.heap.size 26 #[.int .i64 (wn : Int), .int .i64 (p : Int), .slice va n vc]) := fun X h => by rw [hSd] at h; exact h.sys
    have HStox : Hid (∀ X, S X → Blk X w2.heap.size 31 #[.int .i64 ta, .int .i64 al, .int .i64 be, .int .i64 ga, .int .i64 de]) := fun X h => by rw [hSd] at h; exact h.tox
    have HSmk0 : Hid (∀ X, S X → Blk X w6.heap.size 40 #[.int .i64 (gx al).1, .int .i64 (gx al).2.1, .bool (gx al).2.2, .int .i64 (gx be).1, .int .i64 (gx be).2.1, .bool (gx be).2.2, .int .i64 (gx ga).1, .int .i64 (gx ga).2.1, .bool (gx ga).2.2, .int .i64 (gx de).1, .int .i64 (gx de).2.1, .bool (gx de).2.2, .slice ia (p + 1) ic, .slice ua wn uc, .slice xa wn xc, .slice la ln lc, .slice za zn zc]) := fun X h => by rw [hSd] at h; exact h.mkr
    have HSlt : Hid (∀ X, S X → g < X.heap.size) := fun X h => by rw [hSd] at h; exact h.lt
    have HSpl : Hid (∀ X, S X → ∀ j, j < 12 → X.cell? ⟨g, j, none⟩ = some (.int .i64 (xs j : Int))) := fun X h => by rw [hSd] at h; exact h.pl
    have HSwit : Hid (∀ X, S X → IntsAt X (some ⟨b0, o0, none⟩) wn X.heap.size (fun j => m.getD j 0)) := fun X h => by rw [hSd] at h; exact h.wit
    obtain ⟨i0, hi, hz0, hz1, hz2⟩ := info_parts info3I
    have CPV : Hid (∀ V, S V → Calls Tryz.prog 12 #[.agg #[.int .i64 (wn : Int), .int .i64 (p : Int), .slice va n vc], .agg #[.int .i64 (gx al).1, .int .i64 (gx al).2.1, .bool (gx al).2.2, .int .i64 (gx be).1, .int .i64 (gx be).2.1, .bool (gx be).2.2, .int .i64 (gx ga).1, .int .i64 (gx ga).2.1, .bool (gx ga).2.2, .int .i64 (gx de).1, .int .i64 (gx de).2.1, .bool (gx de).2.2, .slice ia (p + 1) ic, .slice ua wn uc, .slice xa wn xc, .slice la ln lc, .slice za zn zc], .slice (some ⟨b0, o0, none⟩) wn cm, .int .i64 (y0 : Int), .int .i64 (y1 : Int)] V fun e w' => e = .returned (.tuple #[.agg (prfC (gx ea) (gx eb) (gx ec)), .bool true]) ∧ Below V.heap.size V w') := hTold.prove
    obtain ⟨tl, htl⟩ : ∃ tl, tl = tld m p := ⟨_, rfl⟩
    have HTL : Hid (tl.length = p ∧ wide tl (tl.length : Int) = true) := by rw [htl]; exact ⟨tld_len m p, tld_wide p HRT.out.1.1.2.1⟩
    have HNW : Hid (∀ V, S V → ∀ j q, (zsV tl)[j]? = some q → V.cell? ((⟨b0, o0 + 1, none⟩ : Addr).add j) = some q) := fun V hV => by rw [htl]; exact tld_news (HSwit.out V hV) hpw
    obtain ⟨IS, hIS⟩ : ∃ IS : List Int → Pt, IS = fun t => inSumI (fun j => (gxL (zls (kBy ls n ta al be (scInv ga)) (p + 1))).getD j pZ) (p + 1) t := ⟨_, rfl⟩
    have CSM : Hid (∀ (ad : Option Addr) (c : Nat) (t : List Int) (V : World), S V → t.length = p → IntsAt V ad p V.heap.size (fun j => t.getD j 0) → Calls Tryz.prog 17 #[.agg #[.int .i64 (gx al).1, .int .i64 (gx al).2.1, .bool (gx al).2.2, .int .i64 (gx be).1, .int .i64 (gx be).2.1, .bool (gx be).2.2, .int .i64 (gx ga).1, .int .i64 (gx ga).2.1, .bool (gx ga).2.2, .int .i64 (gx de).1, .int .i64 (gx de).2.1, .bool (gx de).2.2, .slice ia (p + 1) ic], .slice ad p c] V fun e w' => e = .returned (pv (IS t)) ∧ Below V.heap.size V w') := by rw [hIS]; exact hTold.sum
    have CRT : Hid ((gx ea).2.2 = false → (gx eb).2.2 = false → ∀ (ad : Option Addr) (c : Nat) (t : List Int) (V : World), S V → t.length = p → wide t (t.length : Int) = true → IntsAt V ad p V.heap.size (fun j => t.getD j 0) → Calls Tryz.prog 14 #[.agg #[.int .i64 (gx al).1, .int .i64 (gx al).2.1, .bool (gx al).2.2, .int .i64 (gx be).1, .int .i64 (gx be).2.1, .bool (gx be).2.2, .int .i64 (gx ga).1, .int .i64 (gx ga).2.1, .bool (gx ga).2.2, .int .i64 (gx de).1, .int .i64 (gx de).2.1, .bool (gx de).2.2, .slice ia (p + 1) ic], .slice ad p c, .agg (prfC (gx ea) (gx eb) (gx ec))] V fun e w' => e = .returned (.bool (decide (IS t = IS tl))) ∧ Below V.heap.size V w') := fun h1 h2 ad c t V hV ht hw hI => by
      have h := hTold.right ad c t (gx ea) (gx eb) (gx ec) V hV ht hI
      have hg := hTold.good
      rw [h1, h2] at hg
      rw [okI_other HTx.out.gOk _ (tld_len m p) (tld_wide p HRT.out.1.1.2.1) ht hw h1 h2 hg] at h
      rw [hIS, htl]
      exact h
    have CPL : Hid ((gx ea).2.2 = false → (gx eb).2.2 = false → ∀ (c : Nat) (V : World), S V → Calls Tryz.prog 14 #[.agg #[.int .i64 (gx al).1, .int .i64 (gx al).2.1, .bool (gx al).2.2, .int .i64 (gx be).1, .int .i64 (gx be).2.1, .bool (gx be).2.2, .int .i64 (gx ga).1, .int .i64 (gx ga).2.1, .bool (gx ga).2.2, .int .i64 (gx de).1, .int .i64 (gx de).2.1, .bool (gx de).2.2, .slice ia (p + 1) ic], .slice (some ⟨b0, o0 + 1, none⟩) p c, .agg (prfC (gx ea) (gx eb) (pSum (gx ec) pB))] V fun e w' => e = .returned (.bool false) ∧ Below V.heap.size V w') := fun h1 h2 c V hV => by
      have h := hTold.right (some ⟨b0, o0 + 1, none⟩) c (tld m p) (gx ea) (gx eb) (pSum (gx ec) pB) V hV (tld_len m p) (tld_ints (HSwit.out V hV) hpw)
      have hg := hTold.good
      rw [h1, h2] at hg
      rw [okI_plus HTx.out.dOk _ (tld_len m p) (tld_wide p HRT.out.1.1.2.1) h1 h2 hg] at h
      exact h
    have CAD : Hid (∀ V, Calls Tryz.prog 19 #[pv (gx ec), pv pB] V fun e w' => e = .returned (pv (pSum (gx ec) pB)) ∧ Below V.heap.size V w') := iPAdd_any _ _
    have CBS : Hid (∀ V, Calls Tryz.prog 20 #[] V fun e w' => e = .returned (.agg #[.int .i64 8445, .int .i64 859, .bool false]) ∧ Below V.heap.size V w') := iBase_any
    have HXL2 : Hid (xs 2 < 10000 ∧ xs 3 < 10000) := ⟨HXL.out 2 (by decide), HXL.out 3 (by decide)⟩
    generalize hP4 : pSum (gx ec) pB = P4 at CAD CPL
    generalize hP1 : gx ea = P1 at CPV CRT CPL
    generalize hP2 : gx eb = P2 at CPV CRT CPL
    generalize hP3 : gx ec = P3 at CPV CRT CAD
    clear hP4 htl hIS
    clear hTold HRT HWF HZ HTB HTx HLL HXL hSd hP1 hP2 hP3 hy0 hy1 hx0 hx1 HSwit hicap
    obtain ⟨V0, hV0, hbv0, hsv0⟩ := box1 w6 40 #[.int .i64 0, .int .i64 0, .bool false, .int .i64 0, .int .i64 0, .bool false, .int .i64 0, .int .i64 0, .bool false, .int .i64 0, .int .i64 0, .bool false, .slice none 0 0, .slice none 0 0, .slice none 0 0, .slice none 0 0, .slice none 0 0]
    unfold mkC
    generalize hgA : gx al = A at CPV CSM CRT CPL HSI HSmk0
    generalize hgB : gx be = B at CPV CSM CRT CPL HSI HSmk0
    generalize hgG : gx ga = G at CPV CSM CRT CPL HSI HSmk0
    generalize hgD : gx de = D at CPV CSM CRT CPL HSI HSmk0
    clear hgA hgB hgG hgD
    obtain ⟨x1, x2, x3⟩ := P1
    obtain ⟨u1, u2, u3⟩ := P2
    obtain ⟨c1, c2, c3⟩ := P3
    obtain ⟨e1, e2, e3⟩ := P4
    replace CPV : Hid (∀ V, S V → Calls Tryz.prog 12 #[.agg #[.int .i64 (wn : Int), .int .i64 (p : Int), .slice va n vc], .agg #[.int .i64 A.1, .int .i64 A.2.1, .bool A.2.2, .int .i64 B.1, .int .i64 B.2.1, .bool B.2.2, .int .i64 G.1, .int .i64 G.2.1, .bool G.2.2, .int .i64 D.1, .int .i64 D.2.1, .bool D.2.2, .slice ia (p + 1) ic, .slice ua wn uc, .slice xa wn xc, .slice la ln lc, .slice za zn zc], .slice (some ⟨b0, o0, none⟩) wn cm, .int .i64 (y0 : Int), .int .i64 (y1 : Int)] V fun e w' => e = .returned (.tuple #[.agg #[.int .i64 x1, .int .i64 x2, .bool x3, .int .i64 u1, .int .i64 u2, .bool u3, .int .i64 c1, .int .i64 c2, .bool c3], .bool true]) ∧ Below V.heap.size V w') := CPV
    replace CRT : Hid (x3 = false → u3 = false → ∀ (ad : Option Addr) (c : Nat) (t : List Int) (V : World), S V → t.length = p → wide t (t.length : Int) = true → IntsAt V ad p V.heap.size (fun j => t.getD j 0) → Calls Tryz.prog 14 #[.agg #[.int .i64 A.1, .int .i64 A.2.1, .bool A.2.2, .int .i64 B.1, .int .i64 B.2.1, .bool B.2.2, .int .i64 G.1, .int .i64 G.2.1, .bool G.2.2, .int .i64 D.1, .int .i64 D.2.1, .bool D.2.2, .slice ia (p + 1) ic], .slice ad p c, .agg #[.int .i64 x1, .int .i64 x2, .bool x3, .int .i64 u1, .int .i64 u2, .bool u3, .int .i64 c1, .int .i64 c2, .bool c3]] V fun e w' => e = .returned (.bool (decide (IS t = IS tl))) ∧ Below V.heap.size V w') := CRT
    replace CPL : Hid (x3 = false → u3 = false → ∀ (c : Nat) (V : World), S V → Calls Tryz.prog 14 #[.agg #[.int .i64 A.1, .int .i64 A.2.1, .bool A.2.2, .int .i64 B.1, .int .i64 B.2.1, .bool B.2.2, .int .i64 G.1, .int .i64 G.2.1, .bool G.2.2, .int .i64 D.1, .int .i64 D.2.1, .bool D.2.2, .slice ia (p + 1) ic], .slice (some ⟨b0, o0 + 1, none⟩) p c, .agg #[.int .i64 x1, .int .i64 x2, .bool x3, .int .i64 u1, .int .i64 u2, .bool u3, .int .i64 e1, .int .i64 e2, .bool e3]] V fun e w' => e = .returned (.bool false) ∧ Below V.heap.size V w') := CPL
    replace CAD : Hid (∀ V, Calls Tryz.prog 19 #[.agg #[.int .i64 c1, .int .i64 c2, .bool c3], .agg #[.int .i64 8445, .int .i64 859, .bool false]] V fun e w' => e = .returned (.agg #[.int .i64 e1, .int .i64 e2, .bool e3]) ∧ Below V.heap.size V w') := CAD
    replace CSM : Hid (∀ (ad : Option Addr) (c : Nat) (t : List Int) (V : World), S V → t.length = p → IntsAt V ad p V.heap.size (fun j => t.getD j 0) → Calls Tryz.prog 17 #[.agg #[.int .i64 A.1, .int .i64 A.2.1, .bool A.2.2, .int .i64 B.1, .int .i64 B.2.1, .bool B.2.2, .int .i64 G.1, .int .i64 G.2.1, .bool G.2.2, .int .i64 D.1, .int .i64 D.2.1, .bool D.2.2, .slice ia (p + 1) ic], .slice ad p c] V fun e w' => e = .returned (pv (IS t)) ∧ Below V.heap.size V w') := CSM
    go_wp2_with (refine store_blkS (cs' := #[.int .i64 A.1, .int .i64 A.2.1, .bool A.2.2, .int .i64 B.1, .int .i64 B.2.1, .bool B.2.2, .int .i64 G.1, .int .i64 G.2.1, .bool G.2.2, .int .i64 D.1, .int .i64 D.2.1, .bool D.2.2, .slice ia (p + 1) ic, .slice ua wn uc, .slice xa wn xc, .slice la ln lc, .slice za zn zc]) rfl rfl rfl rfl rfl hsv0 infoMk rfl (onesMk _ _ _ _ _ _ _ _ _ _ _ _ _ _ _ _ _ _ _) ?_; intro w7 hmk hheap hoth hbel; have hb7 := hbel _ _ (Nat.le_refl _) hbv0; clear hoth hbel hheap)
    have HS7 : Hid (S w7) := HSI.out _ (HX6.out.1.trans (hb7.mono HX6.out.1.size)) (HX6.out.2.1.on hb7 HX6.out.2.1.lt) (HX6.out.2.2.1.on hb7 HX6.out.2.2.1.lt) hmk hb7
    clear hV0 hbv0 hsv0 hb7 hmk HX6 HPS HSI
    have hs7 := HSsys.out _ HS7.out
    have hk7 := HSmk0.out _ HS7.out
    have hl7 := HSlt.out _ HS7.out
    have cl0 := HSpl.out _ HS7.out 0 (by decide)
    have cl1 := HSpl.out _ HS7.out 1 (by decide)
    generalize xs 0 = xs0 at cl0 htm0
    generalize xs 1 = xs1 at cl1 htm1
    go_wp2_with fail
    have T0 : Below w7.heap.size w7 w7.drew := (Below.refl _ _).drew
    refine wp_region_to [(0, false), (1, false), (2, false), (3, false), (4, false), (5, false), (6, false), (7, false), (8, false), (9, false), (10, false)] 7 #[true, true, true, true, true, true, true, true, true, true, true, false, false, false, false, false, false, false] (fun wz => Below w7.heap.size w7 wz) mixes (by kernel_rfl) T0 ?_
    repeat (refine ord_float rfl rfl (fun K hK => ⟨_, (fun w' hw => by have q0 := (hs7.on hw hs7.lt).cell 0; have q1 :=  (hs7.on hw hs7.lt).cell 1; have q2 :=  (hs7.on hw hs7.lt).cell 2; have q3 :=  (hk7.on hw hk7.lt).cell 0; have q4 :=  (hk7.on hw hk7.lt).cell 1; have q5 :=  (hk7.on hw hk7.lt).cell 2; have q6 :=  (hk7.on hw hk7.lt).cell 3; have q7 :=  (hk7.on hw hk7.lt).cell 4; have q8 :=  (hk7.on hw hk7.lt).cell 5; have q9 :=  (hk7.on hw hk7.lt).cell 6; have q10 :=  (hk7.on hw hk7.lt).cell 7; have q11 :=  (hk7.on hw hk7.lt).cell 8; have q12 :=  (hk7.on hw hk7.lt).cell 9; have q13 :=  (hk7.on hw hk7.lt).cell 10; have q14 :=  (hk7.on hw hk7.lt).cell 11; have q15 :=  (hk7.on hw hk7.lt).cell 12; have q16 :=  (hk7.on hw hk7.lt).cell 13; have q17 :=  (hk7.on hw hk7.lt).cell 14; have q18 :=  (hk7.on hw hk7.lt).cell 15; have q19 :=  (hk7.on hw hk7.lt).cell 16; have q20 :=  (hw.cell (p := ⟨g, 0, none⟩) hl7).trans cl0; have q21 :=  (hw.cell (p := ⟨g, 1, none⟩) hl7).trans cl1; go_simp; exact rfl), ?_⟩); go_simp; refine hK _ ?_; clear hK K)
    refine ord_nil ?_
    refine anyH_chn (H := [11, 12, 13, 14, 15, 16, 17]) (LS := [#[true, true, true, true, true, true, true, true, true, true, true, false, false, false, false, false, false, false], #[true, true, true, true, true, true, true, true, true, true, true, true, false, false, false, false, false, false], #[true, true, true, true, true, true, true, true, true, true, true, false, false, false, false, true, false, false], #[true, true, true, true, true, true, true, true, true, true, true, true, true, false, false, false, false, false], #[true, true, true, true, true, true, true, true, true, true, true, true, false, false, false, true, false, false], #[true, true, true, true, true, true, true, true, true, true, true, true, true, true, false, false, false, false], #[true, true, true, true, true, true, true, true, true, true, true, true, true, false, true, false, false, false], #[true, true, true, true, true, true, true, true, true, true, true, true, true, false, false, true, false, false], #[true, true, true, true, true, true, true, true, true, true, true, true, true, true, true, false, false, false], #[true, true, true, true, true, true, true, true, true, true, true, true, true, true, false, true, false, false], #[true, true, true, true, true, true, true, true, true, true, true, true, true, false, true, true, false, false], #[true, true, true, true, true, true, true, true, true, true, true, true, true, true, true, true, false, false], #[true, true, true, true, true, true, true, true, true, true, true, true, true, true, false, true, true, false], #[true, true, true, true, true, true, true, true, true, true, true, true, true, true, true, true, true, false], #[true, true, true, true, true, true, true, true, true, true, true, true, true, true, true, true, true, true]]) (Le := #[true, true, true, true, true, true, true, true, true, true, true, true, true, true, true, true, true, true]) w7 (fun i x _ => pvVr (.agg #[.int .i64 x1, .int .i64 x2, .bool x3, .int .i64 u1, .int .i64 u2, .bool u3, .int .i64 c1, .int .i64 c2, .bool c3]) true (kputProves i) x) (fun _ _ _ => True) (fun _ _ => True) (fun _ _ => True) 11 15 16 44 #[.int .i64 0, .int .i64 0, .bool false, .int .i64 0, .int .i64 0, .bool false, .int .i64 0, .int .i64 0, .bool false] (fun _ => #[.int .i64 x1, .int .i64 x2, .bool x3, .int .i64 u1, .int .i64 u2, .bool u3, .int .i64 c1, .int .i64 c2, .bool c3]) (fun _ _ _ _ _ _ => trivial) (fun _ _ _ _ _ => trivial) (fun _ _ _ => trivial) (fun _ _ _ _ _ _ => trivial) (by kernel_rfl) (by kernel_rfl) (by kernel_rfl) rfl rfl (by kernel_rfl) (fun i hi => by have h0 := first_noneP (k := kputProves) (by kernel_rfl) i hi; exact ⟨fun y => by show pvVr _ _ (kputProves i) _; rw [h0]; exact trivial, trivial⟩) (fun _ _ => trivial) (fun _ _ => trivial) (fun _ _ => trivial) ?_ ?_ ?_ T0 ?_
    · intro L i o v w8 hiH hna hns ho hJ hS hun hall
      rw [putProves v _ rfl rfl rfl rfl rfl rfl rfl rfl]
      simp only [List.mem_cons, List.not_mem_nil, or_false] at hiH
      rcases hiH with rfl | rfl | rfl | rfl | rfl | rfl | rfl <;> obtain rfl := Option.some.inj ho
      · refine .inr ⟨_, _, (by go_simp <;> first | exact rfl | exact ⟨rfl, rfl⟩), ?_⟩
        refine (CPV.out w8 (HSon.out _ _ HS7.out hS)).mono ?_
        rintro e w9 ⟨rfl, hb⟩
        exact ⟨_, rfl, fun _ _ => rfl, fun h => absurd rfl h, fun _ => ⟨trivial, fun _ _ => trivial⟩, hb⟩
      · have e11 : v 11 = .tuple #[.agg #[.int .i64 x1, .int .i64 x2, .bool x3, .int .i64 u1, .int .i64 u2, .bool u3, .int .i64 c1, .int .i64 c2, .bool c3], .bool true] := hJ.val 11 (hall { on := 11, ground := .data } (by simp) rfl) _ (fun _ => rfl)
        rw [e11]
        exact .inl ⟨.tuple #[.agg #[.int .i64 x1, .int .i64 x2, .bool x3, .int .i64 u1, .int .i64 u2, .bool u3, .int .i64 c1, .int .i64 c2, .bool c3], .bool true], (by go_simp <;> rfl), fun _ _ => rfl, trivial, by decide⟩
      · have e12 : v 12 = .tuple #[.agg #[.int .i64 x1, .int .i64 x2, .bool x3, .int .i64 u1, .int .i64 u2, .bool u3, .int .i64 c1, .int .i64 c2, .bool c3], .bool true] := hJ.val 12 (hall { on := 12, ground := .data } (by simp) rfl) _ (fun _ => rfl)
        rw [e12]
        exact .inl ⟨.agg #[.int .i64 x1, .int .i64 x2, .bool x3, .int .i64 u1, .int .i64 u2, .bool u3, .int .i64 c1, .int .i64 c2, .bool c3], (by go_simp <;> rfl), fun _ _ => rfl, trivial, by decide⟩
      · have e12 : v 12 = .tuple #[.agg #[.int .i64 x1, .int .i64 x2, .bool x3, .int .i64 u1, .int .i64 u2, .bool u3, .int .i64 c1, .int .i64 c2, .bool c3], .bool true] := hJ.val 12 (hall { on := 12, ground := .data } (by simp) rfl) _ (fun _ => rfl)
        rw [e12]
        exact .inl ⟨.bool true, (by go_simp <;> rfl), fun _ _ => rfl, trivial, by decide⟩
      · exact absurd rfl hna
      · exact absurd rfl hns
      · have e14 : v 14 = .bool true := hJ.val 14 (hall { on := 14, ground := .data } (by simp) rfl) _ (fun _ => rfl)
        rw [e14]
        exact .inl ⟨.bool true, (by go_simp <;> rfl), fun _ _ => rfl, trivial, by decide⟩
    · intro v w8
      rw [putProves v _ rfl rfl rfl rfl rfl rfl rfl rfl]
      go_simp <;> rfl
    · intro L v w8 gx_ hJ hall hc hg hblk
      have e5 : v 13 = .agg #[.int .i64 x1, .int .i64 x2, .bool x3, .int .i64 u1, .int .i64 u2, .bool u3, .int .i64 c1, .int .i64 c2, .bool c3] := hJ.val 13 (hall { on := 13, ground := .data } (by simp) rfl) _ (fun _ => rfl)
      rw [putProves v _ rfl rfl rfl rfl rfl rfl rfl rfl]
      exact exec_storeR (t := 44) (p := .tmp 9) (u := .tmp 46) rfl (by go_simp <;> exact hg) (by go_simp <;> exact e5) hblk infoPrv rfl (by simp [Value.oneCell'])
    · intro v w8 gq hV _ _ hg hgW hblk hB8
      have e11 : v 11 = .tuple #[.agg #[.int .i64 x1, .int .i64 x2, .bool x3, .int .i64 u1, .int .i64 u2, .bool u3, .int .i64 c1, .int .i64 c2, .bool c3], .bool true] := hV 11 rfl
      have e12 : v 12 = .tuple #[.agg #[.int .i64 x1, .int .i64 x2, .bool x3, .int .i64 u1, .int .i64 u2, .bool u3, .int .i64 c1, .int .i64 c2, .bool c3], .bool true] := hV 12 rfl
      have e13 : v 13 = .agg #[.int .i64 x1, .int .i64 x2, .bool x3, .int .i64 u1, .int .i64 u2, .bool u3, .int .i64 c1, .int .i64 c2, .bool c3] := hV 13 rfl
      have e14 : v 14 = .bool true := hV 14 rfl
      have e17 : v 17 = .bool true := hV 17 rfl
      rw [putProves v _ rfl rfl rfl rfl rfl rfl rfl rfl]
      rw [hg, e11, e12, e13, e14, e17]
      clear hV hg e11 e12 e13 e14 e17
      generalize v 16 = j16
      clear v
      go_simp
      have hS8 := HSon.out _ _ HS7.out hB8
      have hblk' : Blk w8 gq 44 #[.int .i64 x1, .int .i64 x2, .bool x3, .int .i64 u1, .int .i64 u2, .bool u3, .int .i64 c1, .int .i64 c2, .bool c3] := hblk
      have HS8 : Hid (S w8) := hS8
      clear hblk HS7 hs7 hk7 hl7 cl0 cl1 T0 CPV hB8 hgW hS8
      have hE8 : (w8.alloc (.cells #[] 3)).ownsRow w8.heap.size 3 1 (.slice (some ⟨w8.heap.size, 0, none⟩) 0 0) 0 [] := World.ownsRow_lit w8 #[] 0 (Nat.le_refl _) (by simp [maxLen]) (by simp)
      have B8 : Below w8.heap.size w8 (w8.alloc (.cells #[] 3)) := (Below.refl _ _).alloc (Nat.le_refl _) _
      have q1 : (w8.alloc (.cells #[] 3)).cell? ⟨w1.heap.size, 1, none⟩ = some (.int .i64 (p : Int)) := (HSsys.out _ (HSon.out _ _ HS8.out B8)).cell 1
      have hp20 : (p : Int) ≤ 20 := by omega
      have hpge : (0 : Int) ≤ (p : Int) := by omega
      by_cases hp0 : p = 0
      · have hz : ((p : Int) == 0) = true := by rw [beq_iff_eq]; omega
        have HP0 : Hid (p = 0) := hp0
        have hpi : (p : Int) + 1 ≤ (cm : Int) := by omega
        have hpn : p + 1 ≤ cm := by omega
        clear hp0 HNW CSM CRT CPL CAD CBS
        refine (Decidable.em (cm = 1)).symm.elim (fun hc1 => ?_) (fun hc1 => ?_)
        · skip
          have hcg : 1 < cm := by omega
          go_wp2_with (at_builtin; refine wpList_append_own _ rfl _ _ 27 rfl w8.heap.size 3 i0 (.int .i64 0) 1 8 Tryz.underlying27 hi hz0 hz1 hz2 rfl (by decide) _ _ _ rfl hE8 ⟨b0, o0 + 1, none⟩ p _ [] rfl (by rw [HP0.out]; rfl) (fun j q hq => by simp at hq) (fun u hu => by simp at hu) (by unfold maxLen; omega) (by omega) (by simp) ?_)
          intro v' w10 hown' hgrow _
          have hB10 : Below w8.heap.size w8 w10 := B8.grown hgrow (by simp) (fun k hk => (hE8.lt k hk).1)
          have hBe : Below w.heap.size w w10 := (HSbel.out _ HS8.out).trans (hB10.mono (HSbel.out _ HS8.out).size)
          obtain ⟨ra, rc, hv⟩ := row_form hown'
          replace hv : v' = .slice ra p rc := by simpa using hv
          subst hv
          clear hown' hgrow hB10 hblk' HS8 q1 hE8 B8
          go_wp2
          go_ret
          exact ⟨rfl, hBe⟩
        · skip
          subst hc1
          go_wp2_with (at_builtin; refine wpList_append_own _ rfl _ _ 27 rfl w8.heap.size 3 i0 (.int .i64 0) 1 8 Tryz.underlying27 hi hz0 hz1 hz2 rfl (by decide) _ _ _ rfl hE8 ⟨b0, o0, none⟩ 0 _ [] rfl rfl (fun j q hq => by simp at hq) (fun u hu => by simp at hu) (by unfold maxLen; omega) (by omega) (by simp) ?_)
          intro v' w10 hown' hgrow _
          have hB10 : Below w8.heap.size w8 w10 := B8.grown hgrow (by simp) (fun k hk => (hE8.lt k hk).1)
          have hBe : Below w.heap.size w w10 := (HSbel.out _ HS8.out).trans (hB10.mono (HSbel.out _ HS8.out).size)
          obtain ⟨ra, rc, hv⟩ := row_form hown'
          replace hv : v' = .slice ra 0 rc := by simpa using hv
          subst hv
          clear hown' hgrow hB10 hblk' HS8 q1 hE8 B8
          go_wp2
          go_ret
          exact ⟨rfl, hBe⟩
      · have hz : ((p : Int) == 0) = false := by rw [beq_eq_false_iff_ne]; omega
        have hcg : 1 < cm := by omega
        have hc1 : ¬ cm = 1 := by omega
        have hpi : (p : Int) + 1 ≤ (cm : Int) := by omega
        have hpn : p + 1 ≤ cm := by omega
        have hpp : 0 < p := by omega
        have hpne : ¬ (p : Int) = 0 := by omega
        have hn8 := HNW.out _ (HSon.out _ _ HS8.out B8)
        have hnl : (zsV tl).length = p * 1 := by rw [zsV, List.length_map, HTL.out.1, Nat.mul_one]
        go_wp2_with (at_builtin; refine wpList_append_own _ rfl _ _ 27 rfl w8.heap.size 3 i0 (.int .i64 0) 1 8 Tryz.underlying27 hi hz0 hz1 hz2 rfl (by decide) _ _ _ rfl hE8 ⟨b0, o0 + 1, none⟩ p _ (zsV tl) rfl hnl hn8 (zsV_one _) (by unfold maxLen; omega) (by omega) (by simp) ?_)
        intro v' w10 hown' hgrow _
        have hB10 : Below w8.heap.size w8 w10 := B8.grown hgrow (by simp) (fun k hk => (hE8.lt k hk).1)
        have hR10 : RowZs w8.heap.size w10 v' tl := by
          unfold RowZs
          rw [HTL.out.1]
          simpa using hown'
        obtain ⟨gr, rc, hv, hgr, hgl, _, _⟩ := hR10.cellZ (j := 0) (by rw [HTL.out.1]; omega)
        rw [HTL.out.1] at hv
        subst hv
        have HR10 : Hid (RowZs w8.heap.size w10 (.slice (some ⟨gr, 0, none⟩) p rc) tl) := hR10
        have HB10 : Hid (Below w8.heap.size w8 w10) := hB10
        have hblk10 := hblk'.on hB10 hblk'.lt
        have hgq : gq < w8.heap.size := hblk'.lt
        have HS10 : Hid (S w10) := HSon.out _ _ HS8.out hB10
        clear hown' hgrow hB10 hR10 hblk' q1 hE8 B8 hn8 hnl HNW
        cases x3
        · cases u3
          · have CRT1 := CRT.out rfl rfl
            have CPL1 := CPL.out rfl rfl
            have CRT2 : Hid (∀ (ad : Option Addr) (c : Nat) (t : List Int) (V : World), S V → t.length = p → wide t (t.length : Int) = true → IntsAt V ad p V.heap.size (fun j => t.getD j 0) → Calls Tryz.prog 14 #[.agg #[.int .i64 A.1, .int .i64 A.2.1, .bool A.2.2, .int .i64 B.1, .int .i64 B.2.1, .bool B.2.2, .int .i64 G.1, .int .i64 G.2.1, .bool G.2.2, .int .i64 D.1, .int .i64 D.2.1, .bool D.2.2, .slice ia (p + 1) ic], .slice ad p c, .agg #[.int .i64 x1, .int .i64 x2, .bool false, .int .i64 u1, .int .i64 u2, .bool false, .int .i64 c1, .int .i64 c2, .bool c3]] V fun e w' => e = .returned (.bool (decide (IS t = IS tl))) ∧ Below V.heap.size V w') := CRT1
            have CPL2 : Hid (∀ (c : Nat) (V : World), S V → Calls Tryz.prog 14 #[.agg #[.int .i64 A.1, .int .i64 A.2.1, .bool A.2.2, .int .i64 B.1, .int .i64 B.2.1, .bool B.2.2, .int .i64 G.1, .int .i64 G.2.1, .bool G.2.2, .int .i64 D.1, .int .i64 D.2.1, .bool D.2.2, .slice ia (p + 1) ic], .slice (some ⟨b0, o0 + 1, none⟩) p c, .agg #[.int .i64 x1, .int .i64 x2, .bool false, .int .i64 u1, .int .i64 u2, .bool false, .int .i64 e1, .int .i64 e2, .bool e3]] V fun e w' => e = .returned (.bool false) ∧ Below V.heap.size V w') := CPL1
            clear CRT CPL CRT1 CPL1
            -- what the sum was
            have hk10 := HSmk0.out _ HS10.out
            have k0 : w10.cell? ⟨w6.heap.size, 0, none⟩ = some (.int .i64 A.1) := hk10.cell 0
            have k1 : w10.cell? ⟨w6.heap.size, 1, none⟩ = some (.int .i64 A.2.1) := hk10.cell 1
            have k2 : w10.cell? ⟨w6.heap.size, 2, none⟩ = some (.bool A.2.2) := hk10.cell 2
            have k3 : w10.cell? ⟨w6.heap.size, 3, none⟩ = some (.int .i64 B.1) := hk10.cell 3
            have k4 : w10.cell? ⟨w6.heap.size, 4, none⟩ = some (.int .i64 B.2.1) := hk10.cell 4
            have k5 : w10.cell? ⟨w6.heap.size, 5, none⟩ = some (.bool B.2.2) := hk10.cell 5
            have k6 : w10.cell? ⟨w6.heap.size, 6, none⟩ = some (.int .i64 G.1) := hk10.cell 6
            have k7 : w10.cell? ⟨w6.heap.size, 7, none⟩ = some (.int .i64 G.2.1) := hk10.cell 7
            have k8 : w10.cell? ⟨w6.heap.size, 8, none⟩ = some (.bool G.2.2) := hk10.cell 8
            have k9 : w10.cell? ⟨w6.heap.size, 9, none⟩ = some (.int .i64 D.1) := hk10.cell 9
            have k10 : w10.cell? ⟨w6.heap.size, 10, none⟩ = some (.int .i64 D.2.1) := hk10.cell 10
            have k11 : w10.cell? ⟨w6.heap.size, 11, none⟩ = some (.bool D.2.2) := hk10.cell 11
            have k12 : w10.cell? ⟨w6.heap.size, 12, none⟩ = some (.slice ia (p + 1) ic) := hk10.cell 12
            have r0 : w10.cell? ⟨gq, 0, none⟩ = some (.int .i64 x1) := hblk10.cell 0
            have r1 : w10.cell? ⟨gq, 1, none⟩ = some (.int .i64 x2) := hblk10.cell 1
            have r2 : w10.cell? ⟨gq, 2, none⟩ = some (.bool false) := hblk10.cell 2
            have r3 : w10.cell? ⟨gq, 3, none⟩ = some (.int .i64 u1) := hblk10.cell 3
            have r4 : w10.cell? ⟨gq, 4, none⟩ = some (.int .i64 u2) := hblk10.cell 4
            have r5 : w10.cell? ⟨gq, 5, none⟩ = some (.bool false) := hblk10.cell 5
            have r6 : w10.cell? ⟨gq, 6, none⟩ = some (.int .i64 c1) := hblk10.cell 6
            have r7 : w10.cell? ⟨gq, 7, none⟩ = some (.int .i64 c2) := hblk10.cell 7
            have r8 : w10.cell? ⟨gq, 8, none⟩ = some (.bool c3) := hblk10.cell 8
            clear hk10
            have CS0 := CSM.out (some ⟨gr, 0, none⟩) rc tl w10 HS10.out HTL.out.1 (by obtain ⟨a', c', hv, hI⟩ := (ZOwn.of HR10.out).at; rw [HTL.out.1] at hv hI; injection hv with e1; subst e1; exact hI)
            obtain ⟨I0, hI0⟩ : ∃ I0, I0 = IS tl := ⟨_, rfl⟩
            rw [← hI0] at CS0
            obtain ⟨i1, i2, i3⟩ := I0
            have HI0 : Hid ((i1, i2, i3) = IS tl) := hI0
            clear hI0
            have CS1 : Hid (Calls Tryz.prog 17 #[.agg #[.int .i64 A.1, .int .i64 A.2.1, .bool A.2.2, .int .i64 B.1, .int .i64 B.2.1, .bool B.2.2, .int .i64 G.1, .int .i64 G.2.1, .bool G.2.2, .int .i64 D.1, .int .i64 D.2.1, .bool D.2.2, .slice ia (p + 1) ic], .slice (some ⟨gr, 0, none⟩) p rc] w10 fun e w' => e = .returned (.agg #[.int .i64 i1, .int .i64 i2, .bool i3]) ∧ Below w10.heap.size w10 w') := CS0
            clear CS0
            go_wp2_with fail
            clear k0 k1 k2 k3 k4 k5 k6 k7 k8 k9 k10 k11 k12 r0 r1 r2 r3 r4 r5 r6 r7 r8
            refine CS1.out.mono ?_
            rintro e w11 ⟨rfl, hb11⟩
            obtain ⟨V1, hV1, hbv1, hsv1⟩ := box1 w11 35 #[.int .i64 0, .int .i64 0, .bool false]
            have hs1011 : w10.heap.size ≤ w11.heap.size := hb11.size
            obtain ⟨k, hkk, hkl⟩ : ∃ k : Nat, Int.tmod (xs 2 : Int) (p : Int) = (k : Int) ∧ k < p := ⟨xs 2 % p, by rw [Int.tmod_eq_emod_of_nonneg (by omega)]; omega, Nat.mod_lt _ hpp⟩
            have hkl' : (k : Int) < (p : Int) := by omega
            have hk0' : (0 : Int) ≤ (k : Int) := by omega
            obtain ⟨xs2, hxs2⟩ : ∃ x, x = xs 2 := ⟨_, rfl⟩
            obtain ⟨xs3, hxs3⟩ : ∃ x, x = xs 3 := ⟨_, rfl⟩
            have HX2 : Hid (xs2 = xs 2 ∧ xs3 = xs 3) := ⟨hxs2, hxs3⟩
            rw [← hxs2] at hkk
            clear hxs2 hxs3
            go_wp2_with (refine store_blkS (cs' := #[.int .i64 i1, .int .i64 i2, .bool i3]) rfl rfl rfl rfl rfl hsv1 infoP rfl (by simp [Value.oneCell']) ?_; intro w12 hw12 hheap hoth hbel; have hb12 := hbel _ _ (Nat.le_refl _) hbv1; have hb13 := hb11.trans (hb12.mono hs1011); clear hoth hbel hheap; have HS12 : Hid (S w12) := HSon.out _ _ HS10.out hb13; have hp2 : w12.cell? ⟨g, 2, none⟩ = some (.int .i64 (xs2 : Int)) := by (rw [HX2.out.1]; exact HSpl.out _ HS12.out 2 (by decide)))
            have hp3 : w12.cell? ⟨g, 3, none⟩ = some (.int .i64 (xs3 : Int)) := by rw [HX2.out.2]; exact HSpl.out _ HS12.out 3 (by decide)
            have HR12 : Hid (RowZs w8.heap.size w12 (.slice (some ⟨gr, 0, none⟩) p rc) tl) := owns_on HR10.out hb13
            have hblk12 := hblk10.on hb13 hblk10.lt
            have HB12 : Hid (Below w8.heap.size w8 w12) := HB10.out.trans (hb13.mono HB10.out.size)
            have hgr10 : gr < w10.heap.size := hgl
            clear hV1 hbv1 hsv1 hb12 hb13 hb11 CS1 HR10 hblk10 HS10 HB10 hp2 hkk
            -- one number is told otherwise
            obtain ⟨k2, hk2, hk20, hk21⟩ : ∃ k2 : Int, Int.tmod (xs3 : Int) 1008 = k2 ∧ 0 ≤ k2 ∧ k2 < 1008 := ⟨_, rfl, by rw [Int.tmod_eq_emod_of_nonneg (by omega)]; omega, by rw [Int.tmod_eq_emod_of_nonneg (by omega)]; omega⟩
            obtain ⟨d, hd⟩ : ∃ d : Int, 1 + k2 = d := ⟨_, rfl⟩
            have hwd : IntKind.i64.wrap d = d := IntWalk.i64_in _ (by omega)
            obtain ⟨g9, c9, hv9, _, _, hcz, hcf⟩ := HR12.out.cellZ (j := k) (by rw [HTL.out.1]; exact hkl)
            have hg9 : g9 = gr := by injection hv9 with e1; injection e1 with e1; injection e1 with e1; exact e1.symm
            subst hg9
            have HC : Hid (∀ wz : World, wz.heap = w12.heap → wz.cell? ⟨g9, k, none⟩ = some (.int .i64 (tl.getD k 0)) ∧ wz.frozen? ⟨g9, k, none⟩ = false ∧ wz.cell? ⟨g, 3, none⟩ = some (.int .i64 (xs3 : Int))) := fun wz hwz => ⟨cell_heap hcz hwz, free_heap hcf hwz, cell_heap hp3 hwz⟩
            have CA : Hid (∀ w, Calls Tryz.prog 18 #[.int .i64 (tl.getD k 0), .int .i64 d] w fun e w' => e = .returned (.int .i64 (scAdd (tl.getD k 0) d)) ∧ w = w') := sScAdd_any _ _
            have HPUT : Hid (∀ wz : World, wz.heap = w12.heap → RowZs w8.heap.size (wz.setCell ⟨g9, k, none⟩ (.int .i64 (scAdd (tl.getD k 0) d))) (.slice (some ⟨g9, 0, none⟩) p rc) (tl.set k (scAdd (tl.getD k 0) d))) := fun wz hwz => (HR12.out.heap hwz).put k _
            have HT2 : Hid ((tl.set k (scAdd (tl.getD k 0) d)).length = p ∧ wide (tl.set k (scAdd (tl.getD k 0) d)) ((tl.set k (scAdd (tl.getD k 0) d)).length : Int) = true) := ⟨by rw [List.length_set, HTL.out.1], wide_set HTL.out.2 k (by rw [scAdd_eq]; have h1 := sca_nonneg (tl.getD k 0 + d); have h2 := sca_lt (tl.getD k 0 + d); omega)⟩
            generalize tl.set k (scAdd (tl.getD k 0) d) = t2 at HPUT HT2
            generalize scAdd (tl.getD k 0) d = y at CA HPUT
            generalize tl.getD k 0 = x at HC CA
            clear hv9 hcz hcf HR12 hp3
            refine wp_region_last [(0, false), (1, false), (2, false), (3, false), (4, false), (5, false), (6, false), (7, false), (8, false), (9, false), (10, false), (11, true), (12, false)] 13 (fun wz => wz.heap = w12.heap) mixes (by kernel_rfl) rfl ?_
            repeat (refine ord_float rfl rfl (fun K hK => ⟨_, (fun w' hw => by have q0 := (HC.out w' hw).1; have q1 :=  (HC.out w' hw).2.2; go_simp; exact rfl), ?_⟩); go_simp; refine hK _ ?_; clear hK K)
            refine ord_call rfl rfl (fun K hK => ⟨_, _, (by go_simp <;> first | exact rfl | exact ⟨rfl, rfl⟩), ?_⟩)
            refine (CA.out _).mono ?_
            rintro e z7 ⟨rfl, hz7⟩
            have T7 : z7.heap = w12.heap := (by rw [← hz7]; rfl)
            refine ⟨_, rfl, T7, ?_⟩
            go_simp
            refine hK _ _ ?_
            clear hK K
            repeat (refine ord_float rfl rfl (fun K hK => ⟨_, (fun w' hw => by have q0 := (HC.out w' hw).1; go_simp; exact rfl), ?_⟩); go_simp; refine hK _ ?_; clear hK K)
            refine ord_nil ?_
            have hq1 := (HC.out z7 T7).1
            have hq2 := (HC.out z7 T7).2.1
            refine last_store rfl rfl rfl (z7.setCell ⟨g9, k, none⟩ (.int .i64 y)) (by go_simp <;> rfl) ?_
            have hR13 := HPUT.out z7 T7
            have hB13 : Below w8.heap.size w12 (z7.setCell ⟨g9, k, none⟩ (.int .i64 y)) := by
              subst hz7
              exact (Below.refl _ _).drew.setCell hgr _
            have hT13 : ∀ (gg tt : Nat) (cc : Array Value), gg ≠ g9 → Blk w12 gg tt cc → Blk (z7.setCell ⟨g9, k, none⟩ (.int .i64 y)) gg tt cc := fun gg tt cc hne h => by
              subst hz7
              exact h.drew.other (fun e => hne e.symm) _
            have HT13 : Hid _ := hT13
            have hs13 : w12.heap.size ≤ (z7.setCell ⟨g9, k, none⟩ (.int .i64 y)).heap.size := hB13.size
            generalize z7.setCell ⟨g9, k, none⟩ (.int .i64 y) = w13 at hR13 hB13 HT13 hs13 ⊢
            have HB13 : Hid (Below w8.heap.size w8 w13) := HB12.out.trans hB13
            have HS13 : Hid (S w13) := HSon.out _ _ HS8.out HB13.out
            have hblk13 := hblk12.on hB13 hgq
            have hwas13 := HT13.out _ _ _ (by omega) hw12
            have HR13 : Hid (RowZs w8.heap.size w13 (.slice (some ⟨g9, 0, none⟩) p rc) t2) := hR13
            clear hT13 HT13 hz7 T7 hq1 hq2 hB13 HC CA HPUT HS12 HB12 hk2 hd hwd hblk12 hw12 hR13
            obtain ⟨I1, hI1⟩ : ∃ I1, I1 = IS t2 := ⟨_, rfl⟩
            have CS2 := CSM.out (some ⟨g9, 0, none⟩) rc t2
            rw [← hI1] at CS2
            have HII : Hid (decide (IS t2 = IS tl) = decide (I1 = (i1, i2, i3))) := by show _ = _; rw [HI0.out, hI1]
            clear hI1
            obtain ⟨j1, j2, j3⟩ := I1
            have hA13 : IntsAt w13 (some ⟨g9, 0, none⟩) p w13.heap.size (fun j => t2.getD j 0) := by
              obtain ⟨a', c', hv, hI⟩ := (ZOwn.of HR13.out).at
              rw [HT2.out.1] at hv hI
              injection hv with e1
              subst e1
              exact hI
            have CS3 : Hid (∀ V, Below w13.heap.size w13 V → Calls Tryz.prog 17 #[.agg #[.int .i64 A.1, .int .i64 A.2.1, .bool A.2.2, .int .i64 B.1, .int .i64 B.2.1, .bool B.2.2, .int .i64 G.1, .int .i64 G.2.1, .bool G.2.2, .int .i64 D.1, .int .i64 D.2.1, .bool D.2.2, .slice ia (p + 1) ic], .slice (some ⟨g9, 0, none⟩) p rc] V fun e w' => e = .returned (.agg #[.int .i64 j1, .int .i64 j2, .bool j3]) ∧ Below V.heap.size V w') := fun V hV => CS2 V (HSon.out _ _ HS13.out hV) HT2.out.1 ((hA13.on hV).wide hV.size)
            have CRT3 : Hid (∀ V, Below w13.heap.size w13 V → Calls Tryz.prog 14 #[.agg #[.int .i64 A.1, .int .i64 A.2.1, .bool A.2.2, .int .i64 B.1, .int .i64 B.2.1, .bool B.2.2, .int .i64 G.1, .int .i64 G.2.1, .bool G.2.2, .int .i64 D.1, .int .i64 D.2.1, .bool D.2.2, .slice ia (p + 1) ic], .slice (some ⟨g9, 0, none⟩) p rc, .agg #[.int .i64 x1, .int .i64 x2, .bool false, .int .i64 u1, .int .i64 u2, .bool false, .int .i64 c1, .int .i64 c2, .bool c3]] V fun e w' => e = .returned (.bool (decide ((j1, j2, j3) = (i1, i2, i3)))) ∧ Below V.heap.size V w') := fun V hV => by
              have h := CRT2.out (some ⟨g9, 0, none⟩) rc t2 V (HSon.out _ _ HS13.out hV) HT2.out.1 HT2.out.2 ((hA13.on hV).wide hV.size)
              rw [HII.out] at h
              exact h
            clear CS2 CRT2 CSM HII HI0 hA13 HT2 HTL
            have hk13 := HSmk0.out _ HS13.out
            have T0 : Below w13.heap.size w13 w13.drew := (Below.refl _ _).drew
            obtain ⟨sm, hsm⟩ : ∃ sm, sm = decide ((j1, j2, j3) = (i1, i2, i3)) := ⟨_, rfl⟩
            rw [← hsm] at CRT3
            have HSM : Hid (sm = decide ((j1, j2, j3) = (i1, i2, i3))) := hsm
            clear hsm
            go_wp2_with fail
            refine wp_region_ord [(0, false), (1, false), (2, false), (4, false), (3, true), (5, false), (6, false)] (fun wz => Below w13.heap.size w13 wz) mixes (by kernel_rfl) T0 ?_
            repeat (refine ord_float rfl rfl (fun K hK => ⟨_, (fun w' hw => by have q0 := (hk13.on hw hk13.lt).cell 0; have q1 :=  (hk13.on hw hk13.lt).cell 1; have q2 :=  (hk13.on hw hk13.lt).cell 2; have q3 :=  (hk13.on hw hk13.lt).cell 3; have q4 :=  (hk13.on hw hk13.lt).cell 4; have q5 :=  (hk13.on hw hk13.lt).cell 5; have q6 :=  (hk13.on hw hk13.lt).cell 6; have q7 :=  (hk13.on hw hk13.lt).cell 7; have q8 :=  (hk13.on hw hk13.lt).cell 8; have q9 :=  (hk13.on hw hk13.lt).cell 9; have q10 :=  (hk13.on hw hk13.lt).cell 10; have q11 :=  (hk13.on hw hk13.lt).cell 11; have q12 :=  (hk13.on hw hk13.lt).cell 12; have q13 :=  (hwas13.on hw hwas13.lt).cell 0; have q14 :=  (hwas13.on hw hwas13.lt).cell 1; have q15 :=  (hwas13.on hw hwas13.lt).cell 2; go_simp; exact rfl), ?_⟩); go_simp; refine hK _ ?_; clear hK K)
            refine ord_call rfl rfl (fun K hK => ⟨_, _, (by go_simp <;> first | exact rfl | exact ⟨rfl, rfl⟩), ?_⟩)
            refine (CS3.out _ T0).mono ?_
            rintro e z8 ⟨rfl, hz8⟩
            have T8 := below_then T0 hz8
            refine ⟨_, rfl, T8, ?_⟩
            go_simp
            refine hK _ _ ?_
            clear hK K
            repeat (refine ord_float rfl rfl (fun K hK => ⟨_, (fun w' hw => by have q0 := (hk13.on hw hk13.lt).cell 0; have q1 :=  (hk13.on hw hk13.lt).cell 1; have q2 :=  (hk13.on hw hk13.lt).cell 2; have q3 :=  (hk13.on hw hk13.lt).cell 3; have q4 :=  (hk13.on hw hk13.lt).cell 4; have q5 :=  (hk13.on hw hk13.lt).cell 5; have q6 :=  (hk13.on hw hk13.lt).cell 6; have q7 :=  (hk13.on hw hk13.lt).cell 7; have q8 :=  (hk13.on hw hk13.lt).cell 8; have q9 :=  (hk13.on hw hk13.lt).cell 9; have q10 :=  (hk13.on hw hk13.lt).cell 10; have q11 :=  (hk13.on hw hk13.lt).cell 11; have q12 :=  (hk13.on hw hk13.lt).cell 12; have q13 :=  (hwas13.on hw hwas13.lt).cell 0; have q14 :=  (hwas13.on hw hwas13.lt).cell 1; have q15 :=  (hwas13.on hw hwas13.lt).cell 2; go_simp; exact rfl), ?_⟩); go_simp; refine hK _ ?_; clear hK K)
            refine ord_float rfl rfl (fun K hK => ⟨.bool sm, (fun w' hw => by
              rw [HSM.out]
              by_cases h1 : j1 = i1
              · by_cases h2 : j2 = i2
                · by_cases h3 : j3 = i3
                  · subst h1 h2 h3
                    go_simp
                  · subst h1 h2
                    have e : decide ((j1, j2, j3) = (j1, j2, i3)) = false := decide_eq_false (by simp [h3])
                    rw [e]
                    cases j3 <;> cases i3 <;> first | exact absurd rfl h3 | go_simp
                · subst h1
                  have e : decide ((j1, j2, j3) = (j1, i2, i3)) = false := decide_eq_false (by simp [h2])
                  rw [e]
                  have h : (j2 == i2) = false := by rw [beq_eq_false_iff_ne]; exact h2
                  go_simp
              · have e : decide ((j1, j2, j3) = (i1, i2, i3)) = false := decide_eq_false (by simp [h1])
                rw [e]
                have h : (j1 == i1) = false := by rw [beq_eq_false_iff_ne]; exact h1
                go_simp), ?_⟩)
            go_simp
            refine hK _ ?_
            clear hK K
            repeat (refine ord_float rfl rfl (fun K hK => ⟨_, (fun w' hw => by have q0 := T8.size; go_simp; exact rfl), ?_⟩); go_simp; refine hK _ ?_; clear hK K)
            refine ord_nil ?_
            have HS14 : Hid (S z8) := HSon.out _ _ HS13.out T8
            have hblk14 := hblk13.on T8 hblk13.lt
            have CRT4 : Hid (∀ V, Below z8.heap.size z8 V → Calls Tryz.prog 14 #[.agg #[.int .i64 A.1, .int .i64 A.2.1, .bool A.2.2, .int .i64 B.1, .int .i64 B.2.1, .bool B.2.2, .int .i64 G.1, .int .i64 G.2.1, .bool G.2.2, .int .i64 D.1, .int .i64 D.2.1, .bool D.2.2, .slice ia (p + 1) ic], .slice (some ⟨g9, 0, none⟩) p rc, .agg #[.int .i64 x1, .int .i64 x2, .bool false, .int .i64 u1, .int .i64 u2, .bool false, .int .i64 c1, .int .i64 c2, .bool c3]] V fun e w' => e = .returned (.bool sm) ∧ Below V.heap.size V w') := fun V hV => CRT3.out V (T8.trans (hV.mono T8.size))
            clear T0 T8 hz8 CS3 CRT3 hk13 hwas13 HSM HR13 hblk13 HS13 HB13
            obtain ⟨V2, hV2, hbv2, hsv2⟩ := box1 z8 44 #[.int .i64 0, .int .i64 0, .bool false, .int .i64 0, .int .i64 0, .bool false, .int .i64 0, .int .i64 0, .bool false]
            go_wp2_with (first | (refine load_blk rfl rfl rfl hblk14 Tryz.underlying44 infoPrv ?_) | (refine store_blkS (cs' := #[.int .i64 x1, .int .i64 x2, .bool false, .int .i64 u1, .int .i64 u2, .bool false, .int .i64 c1, .int .i64 c2, .bool c3]) rfl rfl rfl rfl rfl hsv2 infoPrv rfl (by simp [Value.oneCell']) ?_; intro w14 hx14 hheap hoth hbel; have hb14 := hbel _ _ (Nat.le_refl _) hbv2; clear hoth hbel hheap))
            have hgx : z8.heap.size < w14.heap.size := hx14.lt
            have hq14 := hblk14.on hb14 hblk14.lt
            have hgqz : gq < z8.heap.size := hblk14.lt
            have T0 : Below z8.heap.size z8 w14.drew := hb14.drew
            have hq15 : Blk w14.drew gq 44 #[.int .i64 x1, .int .i64 x2, .bool false, .int .i64 u1, .int .i64 u2, .bool false, .int .i64 c1, .int .i64 c2, .bool c3] := hq14.drew
            have hx15 : Blk w14.drew z8.heap.size 44 #[.int .i64 x1, .int .i64 x2, .bool false, .int .i64 u1, .int .i64 u2, .bool false, .int .i64 c1, .int .i64 c2, .bool c3] := hx14.drew
            clear hV2 hbv2 hsv2
            refine wp_region_last [(0, false), (1, false), (2, true), (3, true), (4, false)] 5 (fun wz => Below w14.drew.heap.size w14.drew wz) mixes (by kernel_rfl) (Below.refl _ _) ?_
            repeat (refine ord_float rfl rfl (fun K hK => ⟨_, (fun w' hw => by have q0 := (hq15.on hw hq15.lt).cell 0; have q1 :=  (hq15.on hw hq15.lt).cell 1; have q2 :=  (hq15.on hw hq15.lt).cell 2; have q3 :=  (hq15.on hw hq15.lt).cell 3; have q4 :=  (hq15.on hw hq15.lt).cell 4; have q5 :=  (hq15.on hw hq15.lt).cell 5; have q6 :=  (hq15.on hw hq15.lt).cell 6; have q7 :=  (hq15.on hw hq15.lt).cell 7; have q8 :=  (hq15.on hw hq15.lt).cell 8; go_simp; exact rfl), ?_⟩); go_simp; refine hK _ ?_; clear hK K)
            refine ord_call rfl rfl (fun K hK => ⟨_, _, (by go_simp <;> first | exact rfl | exact ⟨rfl, rfl⟩), ?_⟩)
            refine (CBS.out _).mono ?_
            rintro e z1 ⟨rfl, hz1_⟩
            have T1 := hz1_
            refine ⟨_, rfl, T1, ?_⟩
            go_simp
            refine hK _ _ ?_
            clear hK K
            refine ord_call rfl rfl (fun K hK => ⟨_, _, (by go_simp <;> first | exact rfl | exact ⟨rfl, rfl⟩), ?_⟩)
            refine (CAD.out _).mono ?_
            rintro e z2 ⟨rfl, hz2_⟩
            have T2 := below_then T1 hz2_
            refine ⟨_, rfl, T2, ?_⟩
            go_simp
            refine hK _ _ ?_
            clear hK K
            repeat (refine ord_float rfl rfl (fun K hK => ⟨_, (fun w' hw => by have q0 := (hx15.on hw hx15.lt).cell 0; have q1 :=  (hx15.on hw hx15.lt).cell 1; have q2 :=  (hx15.on hw hx15.lt).cell 2; have q3 :=  (hx15.on hw hx15.lt).cell 3; have q4 :=  (hx15.on hw hx15.lt).cell 4; have q5 :=  (hx15.on hw hx15.lt).cell 5; have q6 :=  (hx15.on hw hx15.lt).cell 6; have q7 :=  (hx15.on hw hx15.lt).cell 7; have q8 :=  (hx15.on hw hx15.lt).cell 8; go_simp; exact rfl), ?_⟩); go_simp; refine hK _ ?_; clear hK K)
            refine ord_nil ?_
            have hxz := hx15.on T2 hx15.lt
            have hc6 := hxz.cell 6
            have hc7 := hxz.cell 7
            have hc8 := hxz.cell 8
            have hf6 := hxz.free 6
            have hf7 := hxz.free 7
            have hf8 := hxz.free 8
            refine last_store rfl rfl rfl (((z2.setCell ⟨z8.heap.size, 6, none⟩ (.int .i64 e1)).setCell ⟨z8.heap.size, 6 + 1, none⟩ (.int .i64 e2)).setCell ⟨z8.heap.size, 6 + 2, none⟩ (.bool e3)) (by go_simp <;> rfl) ?_
            have hx16 : Blk (((z2.setCell ⟨z8.heap.size, 6, none⟩ (.int .i64 e1)).setCell ⟨z8.heap.size, 6 + 1, none⟩ (.int .i64 e2)).setCell ⟨z8.heap.size, 6 + 2, none⟩ (.bool e3)) z8.heap.size 44 #[.int .i64 x1, .int .i64 x2, .bool false, .int .i64 u1, .int .i64 u2, .bool false, .int .i64 e1, .int .i64 e2, .bool e3] := hxz.set3r 6 _ _ _
            have hB16 : Below z8.heap.size z8 (((z2.setCell ⟨z8.heap.size, 6, none⟩ (.int .i64 e1)).setCell ⟨z8.heap.size, 6 + 1, none⟩ (.int .i64 e2)).setCell ⟨z8.heap.size, 6 + 2, none⟩ (.bool e3)) := below_set3 (T0.trans (T2.mono T0.size)) (Nat.le_refl _) _ _ _
            generalize (((z2.setCell ⟨z8.heap.size, 6, none⟩ (.int .i64 e1)).setCell ⟨z8.heap.size, 6 + 1, none⟩ (.int .i64 e2)).setCell ⟨z8.heap.size, 6 + 2, none⟩ (.bool e3)) = w16 at hx16 hB16 ⊢
            have hq16 := hblk14.on hB16 hgqz
            have HS16 : Hid (S w16) := HSon.out _ _ HS14.out hB16
            have CRT5 : Hid (∀ V, Below w16.heap.size w16 V → Calls Tryz.prog 14 #[.agg #[.int .i64 A.1, .int .i64 A.2.1, .bool A.2.2, .int .i64 B.1, .int .i64 B.2.1, .bool B.2.2, .int .i64 G.1, .int .i64 G.2.1, .bool G.2.2, .int .i64 D.1, .int .i64 D.2.1, .bool D.2.2, .slice ia (p + 1) ic], .slice (some ⟨g9, 0, none⟩) p rc, .agg #[.int .i64 x1, .int .i64 x2, .bool false, .int .i64 u1, .int .i64 u2, .bool false, .int .i64 c1, .int .i64 c2, .bool c3]] V fun e w' => e = .returned (.bool sm) ∧ Below V.heap.size V w') := fun V hV => CRT4.out V (hB16.trans (hV.mono hB16.size))
            have CPL5 : Hid (∀ c V, Below w16.heap.size w16 V → Calls Tryz.prog 14 #[.agg #[.int .i64 A.1, .int .i64 A.2.1, .bool A.2.2, .int .i64 B.1, .int .i64 B.2.1, .bool B.2.2, .int .i64 G.1, .int .i64 G.2.1, .bool G.2.2, .int .i64 D.1, .int .i64 D.2.1, .bool D.2.2, .slice ia (p + 1) ic], .slice (some ⟨b0, o0 + 1, none⟩) p c, .agg #[.int .i64 x1, .int .i64 x2, .bool false, .int .i64 u1, .int .i64 u2, .bool false, .int .i64 e1, .int .i64 e2, .bool e3]] V fun e w' => e = .returned (.bool false) ∧ Below V.heap.size V w') := fun c V hV => CPL2.out c V (HSon.out _ _ HS16.out hV)
            have hB17 : Below w.heap.size w w16 := HSbel.out _ HS16.out
            have hk16 := HSmk0.out _ HS16.out
            have hs16 := HSsys.out _ HS16.out
            clear hxz hc6 hc7 hc8 hf6 hf7 hf8 T0 T1 T2 hz1_ hz2_ hq14 hq15 hx14 hx15 hblk14 HS14 HS16 CRT4 CPL2 CBS CAD hB16 hb14
            have hwp : IntKind.i64.wrap ((p : Int) + 1) = (p : Int) + 1 := IntWalk.i64_in _ (by omega)
            have h01 : (1 : Int) ≤ (p : Int) + 1 := by omega
            have T0 : Below w16.heap.size w16 w16.drew := (Below.refl _ _).drew
            go_wp2_with fail
            refine wp_region_ord [(0, false), (1, false), (2, false), (3, false), (4, false), (5, false), (6, false), (7, false), (8, false), (10, false), (9, true), (11, false), (12, false), (13, false), (14, false), (15, false), (16, false), (17, false), (18, false), (19, false), (20, false), (21, false), (22, true), (23, false), (24, false), (25, false)] (fun wz => Below w16.heap.size w16 wz) mixes (by kernel_rfl) T0 ?_
            repeat (refine ord_float rfl rfl (fun K hK => ⟨_, (fun w' hw => by have q0 := (hk16.on hw hk16.lt).cell 0; have q1 :=  (hk16.on hw hk16.lt).cell 1; have q2 :=  (hk16.on hw hk16.lt).cell 2; have q3 :=  (hk16.on hw hk16.lt).cell 3; have q4 :=  (hk16.on hw hk16.lt).cell 4; have q5 :=  (hk16.on hw hk16.lt).cell 5; have q6 :=  (hk16.on hw hk16.lt).cell 6; have q7 :=  (hk16.on hw hk16.lt).cell 7; have q8 :=  (hk16.on hw hk16.lt).cell 8; have q9 :=  (hk16.on hw hk16.lt).cell 9; have q10 :=  (hk16.on hw hk16.lt).cell 10; have q11 :=  (hk16.on hw hk16.lt).cell 11; have q12 :=  (hk16.on hw hk16.lt).cell 12; have q13 :=  (hq16.on hw hq16.lt).cell 0; have q14 :=  (hq16.on hw hq16.lt).cell 1; have q15 :=  (hq16.on hw hq16.lt).cell 2; have q16 :=  (hq16.on hw hq16.lt).cell 3; have q17 :=  (hq16.on hw hq16.lt).cell 4; have q18 :=  (hq16.on hw hq16.lt).cell 5; have q19 :=  (hq16.on hw hq16.lt).cell 6; have q20 :=  (hq16.on hw hq16.lt).cell 7; have q21 :=  (hq16.on hw hq16.lt).cell 8; go_simp; exact rfl), ?_⟩); go_simp; refine hK _ ?_; clear hK K)
            refine ord_call rfl rfl (fun K hK => ⟨_, _, (by go_simp <;> first | exact rfl | exact ⟨rfl, rfl⟩), ?_⟩)
            refine (CRT5.out _ T0).mono ?_
            rintro e v1 ⟨rfl, hv1⟩
            have T1 := below_then T0 hv1
            refine ⟨_, rfl, T1, ?_⟩
            go_simp
            refine hK _ _ ?_
            clear hK K
            repeat (refine ord_float rfl rfl (fun K hK => ⟨_, (fun w' hw => by have q0 := (hk16.on hw hk16.lt).cell 0; have q1 :=  (hk16.on hw hk16.lt).cell 1; have q2 :=  (hk16.on hw hk16.lt).cell 2; have q3 :=  (hk16.on hw hk16.lt).cell 3; have q4 :=  (hk16.on hw hk16.lt).cell 4; have q5 :=  (hk16.on hw hk16.lt).cell 5; have q6 :=  (hk16.on hw hk16.lt).cell 6; have q7 :=  (hk16.on hw hk16.lt).cell 7; have q8 :=  (hk16.on hw hk16.lt).cell 8; have q9 :=  (hk16.on hw hk16.lt).cell 9; have q10 :=  (hk16.on hw hk16.lt).cell 10; have q11 :=  (hk16.on hw hk16.lt).cell 11; have q12 :=  (hk16.on hw hk16.lt).cell 12; have q13 :=  (hx16.on hw hx16.lt).cell 0; have q14 :=  (hx16.on hw hx16.lt).cell 1; have q15 :=  (hx16.on hw hx16.lt).cell 2; have q16 :=  (hx16.on hw hx16.lt).cell 3; have q17 :=  (hx16.on hw hx16.lt).cell 4; have q18 :=  (hx16.on hw hx16.lt).cell 5; have q19 :=  (hx16.on hw hx16.lt).cell 6; have q20 :=  (hx16.on hw hx16.lt).cell 7; have q21 :=  (hx16.on hw hx16.lt).cell 8; have q22 :=  (hs16.on hw hs16.lt).cell 1; go_simp; exact rfl), ?_⟩); go_simp; refine hK _ ?_; clear hK K)
            refine ord_call rfl rfl (fun K hK => ⟨_, _, (by go_simp <;> first | exact rfl | exact ⟨rfl, rfl⟩), ?_⟩)
            refine (CPL5.out _ _ T1).mono ?_
            rintro e v2 ⟨rfl, hv2⟩
            have T2 := below_then T1 hv2
            refine ⟨_, rfl, T2, ?_⟩
            go_simp
            refine hK _ _ ?_
            clear hK K
            repeat (refine ord_float rfl rfl (fun K hK => ⟨_, (fun w' hw => by have q0 := T2.size; go_simp; exact rfl), ?_⟩); go_simp; refine hK _ ?_; clear hK K)
            refine ord_nil ?_
            have hBe : Below w.heap.size w v2 := hB17.trans (T2.mono hB17.size)
            clear T0 T1 T2 hv1 hv2 CRT5 CPL5 hk16 hs16 hx16 hq16 hB17
            go_wp2
            go_ret
            exact ⟨rfl, hBe⟩
          · skip
            have r0 : w10.cell? ⟨gq, 0, none⟩ = some (.int .i64 x1) := hblk10.cell 0
            have r1 : w10.cell? ⟨gq, 1, none⟩ = some (.int .i64 x2) := hblk10.cell 1
            have r2 : w10.cell? ⟨gq, 2, none⟩ = some (.bool false) := hblk10.cell 2
            have r3 : w10.cell? ⟨gq, 3, none⟩ = some (.int .i64 u1) := hblk10.cell 3
            have r4 : w10.cell? ⟨gq, 4, none⟩ = some (.int .i64 u2) := hblk10.cell 4
            have r5 : w10.cell? ⟨gq, 5, none⟩ = some (.bool true) := hblk10.cell 5
            have r6 : w10.cell? ⟨gq, 6, none⟩ = some (.int .i64 c1) := hblk10.cell 6
            have r7 : w10.cell? ⟨gq, 7, none⟩ = some (.int .i64 c2) := hblk10.cell 7
            have r8 : w10.cell? ⟨gq, 8, none⟩ = some (.bool c3) := hblk10.cell 8
            have hBe : Below w.heap.size w w10 := HSbel.out _ HS10.out
            clear CRT CPL CSM CAD CBS HR10 HB10 HS10 hblk10
            go_wp2
            go_ret
            exact ⟨rfl, hBe⟩
        · skip
          have r0 : w10.cell? ⟨gq, 0, none⟩ = some (.int .i64 x1) := hblk10.cell 0
          have r1 : w10.cell? ⟨gq, 1, none⟩ = some (.int .i64 x2) := hblk10.cell 1
          have r2 : w10.cell? ⟨gq, 2, none⟩ = some (.bool true) := hblk10.cell 2
          have r3 : w10.cell? ⟨gq, 3, none⟩ = some (.int .i64 u1) := hblk10.cell 3
          have r4 : w10.cell? ⟨gq, 4, none⟩ = some (.int .i64 u2) := hblk10.cell 4
          have r5 : w10.cell? ⟨gq, 5, none⟩ = some (.bool u3) := hblk10.cell 5
          have r6 : w10.cell? ⟨gq, 6, none⟩ = some (.int .i64 c1) := hblk10.cell 6
          have r7 : w10.cell? ⟨gq, 7, none⟩ = some (.int .i64 c2) := hblk10.cell 7
          have r8 : w10.cell? ⟨gq, 8, none⟩ = some (.bool c3) := hblk10.cell 8
          have hBe : Below w.heap.size w w10 := HSbel.out _ HS10.out
          clear CRT CPL CSM CAD CBS HR10 HB10 HS10 hblk10
          go_wp2
          go_ret
          exact ⟨rfl, hBe⟩

end Go.Proofs.YthnahalboomkoaaGreat
