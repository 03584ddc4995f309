/-
  The walk of the program's rows as one product: a polynomial of each wire.
  (-DROP-: what the seat lacks is left out.)
-/
import Derived.Test.YthnahalboomkoaaGreatQapI2
import Derived.Test.YthnahalboomkoaaGreatQapS2
import Derived.Test.YthnahalboomkoaaGreatJoined20
import Derived.Test.YthnahalboomkoaaGreatRwSys2

namespace Go.Proofs.YthnahalboomkoaaGreat
open Go.RowKit

set_option maxHeartbeats 6400000 in
set_option maxRecDepth 100000 in
theorem iQapOf_any (wi pu : Int) (hwf : (Lit.int .i64 wi).wf = true) (a : Option Addr) (n c : Nat) (hn : n ≤ 9223372036854775807) (ls : List (List Int)) (hz : ∀ j, (ls.getD j []).length ≤ 9223372036854775807) (w : World) (hA : NAt 3 w w.heap.size (.slice a n c) n ls) :
    Calls Tryz.prog 123 #[.agg #[.int .i64 wi, .int .i64 pu, .slice a n c]] w fun e w' => QapEnd w wi pu n ls e w' := by
  obtain ⟨k0, hk, hy0, hy1, hy2⟩ := info_parts infoIs
  obtain ⟨W, hW, hb, hs, hr⟩ := boxes1r w 26 122 #[.int .i64 wi, .int .i64 pu, .slice a n c] #[.slice none 0 0, .slice none 0 0, .slice none 0 0]
  have HA : Hid (NAt 3 w w.heap.size (.slice a n c) n ls) := hA
  have CS : Hid (∀ V, Below w.heap.size w V → Calls Tryz.prog 57 #[.agg #[.int .i64 wi, .int .i64 pu, .slice a n c]] V fun e w' => e = .returned (.bool (sysOk wi pu n ls)) ∧ Below V.heap.size V w') := fun V hV => iSysOk_any wi pu hwf a n c hn ls hz V ((hA.on hV).wide hV.size)
  have H0 : Hid (Below w.heap.size w W ∧ Blk W w.heap.size 26 #[.int .i64 wi, .int .i64 pu, .slice a n c] ∧ Blk W (w.heap.size + 1) 122 #[.slice none 0 0, .slice none 0 0, .slice none 0 0]) := ⟨hb, hs, hr⟩
  have hs1 : w.heap.size + 1 < W.heap.size := hr.lt
  have hlen : Hid (ls.length = n * 3) := hA.1
  clear hA hb hr hz hs
  obtain ⟨V0, hV0, hb0, hs0⟩ := box1 W 122 #[.slice none 0 0, .slice none 0 0, .slice none 0 0]
  go_enter Tryz.func123, Tryz.ntmps123
  go_wp2_with (first | (refine store_blkS (cs' := #[.slice none 0 0, .slice none 0 0, .slice none 0 0]) rfl rfl rfl rfl rfl hs0 infoQa rfl (onesQa _ _ _ _ _ _ _ _ _) ?_; intro V4 hq4 hheap hoth hbel; have hb4 := hbel _ _ (Nat.le_refl _) hb0; clear hoth hbel hheap; have hsy := H0.out.2.1.on hb4 H0.out.2.1.lt) | (refine load_blk rfl rfl rfl hsy Tryz.underlying26 infoSy ?_))
  have hs4 : W.heap.size < V4.heap.size := hq4.lt
  have hwV4 : Below w.heap.size w V4 := H0.out.1.trans (hb4.mono (by omega))
  refine (CS.out _ hwV4).mono ?_
  rintro e w1 ⟨rfl, hb1⟩
  have H1 : Hid (Below w.heap.size w w1 ∧ Blk w1 w.heap.size 26 #[.int .i64 wi, .int .i64 pu, .slice a n c] ∧ Blk w1 (w.heap.size + 1) 122 #[.slice none 0 0, .slice none 0 0, .slice none 0 0] ∧ Blk w1 W.heap.size 122 #[.slice none 0 0, .slice none 0 0, .slice none 0 0]) := ⟨hwV4.trans (hb1.mono hwV4.size), hsy.on hb1 hsy.lt, (H0.out.2.2.on hb4 H0.out.2.2.lt).on hb1 (by omega), hq4.on hb1 hq4.lt⟩
  have hs1w : W.heap.size < w1.heap.size := H1.out.2.2.2.lt
  clear hb1 H0 CS hwV4 hs4 hb4 hq4 hsy hV0 hb0 hs0 hW
  cases hok : sysOk wi pu n ls
  · have hres := H1.out.2.2.1
    have hq := H1.out.2.2.2
    go_wp2_with (first | (refine load_blk rfl rfl rfl hq Tryz.underlying122 infoQa ?_) | (refine store_blkS (cs' := #[.slice none 0 0, .slice none 0 0, .slice none 0 0]) rfl rfl rfl rfl rfl hres infoQa rfl (onesQa _ _ _ _ _ _ _ _ _) ?_; intro V8 h8 hheap hoth hbel; have hb8 := hbel _ _ (by omega) H1.out.1; clear hoth hbel hheap))
    refine bodyPost_ret_by (result_Btmp rfl rfl rfl h8 Tryz.underlying122 infoQa) rfl (.inl ⟨hok, rfl, hb8⟩)
  · have HOK : Hid (sysOk wi pu n ls = true) := hok
    have hok1 := hok
    unfold sysOk at hok1
    simp only [Bool.and_eq_true, decide_eq_true_eq] at hok1
    obtain ⟨⟨hw1, hw2⟩, _, ⟨hn1, hn2⟩, hall⟩ := hok1
    have HWD : Hid (∀ k, k < n * 3 → ((ls.getD k []).length : Int) = wi) := fun k hk => wide_lenQ hall (by rw [hlen.out]; exact hk)
    obtain ⟨wn, rfl⟩ : ∃ wn : Nat, wi = (wn : Int) := ⟨wi.toNat, by omega⟩
    have hn16 : n ≤ 16 := by omega
    clear hall hok hlen
    have hcw := H1.out.2.1.cell 0
    replace hcw : w1.cell? ⟨w.heap.size, 0, none⟩ = some (.int .i64 (wn : Int)) := hcw
    have HCT : Hid (∀ (j t : Nat) (v : Value) (W' : World), ZAt W' W'.heap.size v (colL ls n t j) → Calls Tryz.prog 179 #[v] W' fun e w' => ∃ u, e = .returned u ∧ ZOwn W'.heap.size w'.heap.size w' u (pThr (colL ls n t j)) ∧ Below W'.heap.size W' w') := fun j t v W' hv => iThr_any v _ (by rw [colL_len]; omega) W' hv
    have HCC : Hid (∀ (j : Nat), j < wn → ∀ V, Below w.heap.size w V → Calls Tryz.prog 178 #[.agg #[.int .i64 (wn : Int), .int .i64 pu, .slice a n c], .int .i64 (j : Int)] V fun e w' => ∃ x y z, e = .returned (.agg #[x, y, z]) ∧ Row3s V.heap.size w' x y z (colL ls n 0 j) (colL ls n 1 j) (colL ls n 2 j) ∧ Below V.heap.size V w') := fun j hj V hV => iCol_any (wn : Int) pu a n c wn j hn16 hj ls (fun k hk => by have := HWD.out k hk; omega) V ((HA.out.on hV).wide hV.size)
    clear HA HWD
    go_wp2
    clear hcw
    go_loopw [14] (fun iv wr => ∃ (j : Nat) (U V X : Value) (us vs xs : List Value), iv = .int .i64 (j : Int) ∧ j ≤ wn ∧ Hid (Below w.heap.size w wr ∧ Blk wr w.heap.size 26 #[.int .i64 (wn : Int), .int .i64 pu, .slice a n c] ∧ Blk wr (w.heap.size + 1) 122 #[.slice none 0 0, .slice none 0 0, .slice none 0 0] ∧ Blk wr W.heap.size 122 #[U, V, X]) ∧ Hid (Tri 27 w1.heap.size wr.heap.size wr U j us (qapN ls n 0 j) V j vs (qapN ls n 1 j) X j xs (qapN ls n 2 j)) ∧ w1.heap.size ≤ wr.heap.size) (fun iv _ => wn - (intOf iv).toNat)
    case atStart => exact ⟨0, _, _, _, [], [], [], rfl, Nat.zero_le _, H1, ⟨nown_nil _ _ _ _ _, nown_nil _ _ _ _ _, nown_nil _ _ _ _ _, fun k h => by rcases h with h | ⟨i, hi, _⟩; cases h; omega, fun k h => by rcases h with h | ⟨i, hi, _⟩; cases h; omega, fun k h => by rcases h with h | ⟨i, hi, _⟩; cases h; omega⟩, Nat.le_refl _⟩
    case round =>
      obtain ⟨j, U, V, X, us, vs, xs, rfl, hj, HB, HT, hsr⟩ := hrel
      clear H1
      obtain ⟨ua, uc, hu⟩ := row_form HT.out.u.row
      subst hu
      obtain ⟨va, vc, hv⟩ := row_form HT.out.v.row
      subst hv
      obtain ⟨xa, xc, hx⟩ := row_form HT.out.x.row
      subst hx
      by_cases hlt : j < wn
      · have hlt' : (j : Int) < (wn : Int) := by omega
        have hj0 : (0 : Int) ≤ (j : Int) := by omega
        have hm63 : j + 1 ≤ maxLen := by unfold maxLen; omega
        have hm47 : (j + 1) * 24 ≤ 140737488355328 := by omega
        have HO0 : Hid (∀ k, (Value.slice ua j uc).ownBlock = some k → w1.heap.size ≤ k ∧ k < wr.heap.size) := fun k hk => HT.out.u.range (.inl hk)
        have HO1 : Hid (∀ k, (Value.slice va j vc).ownBlock = some k → w1.heap.size ≤ k ∧ k < wr.heap.size) := fun k hk => HT.out.v.range (.inl hk)
        have HO2 : Hid (∀ k, (Value.slice xa j xc).ownBlock = some k → w1.heap.size ≤ k ∧ k < wr.heap.size) := fun k hk => HT.out.x.range (.inl hk)
        have HQ0 : Hid (qapN ls n 0 (j + 1) = qapN ls n 0 j ++ [pThr (colL ls n 0 j)]) := rfl
        have HQ1 : Hid (qapN ls n 1 (j + 1) = qapN ls n 1 j ++ [pThr (colL ls n 1 j)]) := rfl
        have HQ2 : Hid (qapN ls n 2 (j + 1) = qapN ls n 2 j ++ [pThr (colL ls n 2 j)]) := rfl
        have hsy := HB.out.2.1
        have hws := HB.out.1.size
        go_wp2_with (refine load_blk rfl rfl rfl hsy Tryz.underlying26 infoSy ?_)
        refine (HCC.out j hlt _ HB.out.1).mono ?_
        rintro e w2 ⟨x, y, z, rfl, hR2, hb2⟩
        obtain ⟨aa, ac, hav⟩ := row_form hR2.ra
        subst hav
        obtain ⟨ba, bc, hbv⟩ := row_form hR2.rb
        subst hbv
        obtain ⟨ca, cc, hcv⟩ := row_form hR2.rc
        subst hcv
        rw [colL_len, colL_len, colL_len] at *
        have hs2 : wr.heap.size ≤ w2.heap.size := hb2.size
        obtain ⟨V0, hV0, hb0, hs0⟩ := box1 w2 146 #[.slice none 0 0, .slice none 0 0, .slice none 0 0]
        go_wp2_with (refine store_blkS (cs' := #[.slice aa n ac, .slice ba n bc, .slice ca n cc]) rfl rfl rfl rfl rfl hs0 infoRw rfl (onesRw _ _ _ _ _ _ _ _ _) ?_; intro Y0 hq4 hheap hoth hbel; have hb4 := hbel _ _ (Nat.le_refl _) hb0; clear hoth hbel hheap)
        have hsY : w2.heap.size < Y0.heap.size := hq4.lt
        have hbY : Below wr.heap.size wr Y0 := hb2.trans (hb4.mono hs2)
        have HR : Hid (Row3s wr.heap.size Y0 (.slice aa n ac) (.slice ba n bc) (.slice ca n cc) (colL ls n 0 j) (colL ls n 1 j) (colL ls n 2 j)) := hR2.kept (Kps.of_below (S := fun _ => False) hb4) (fun _ _ h => h)
        have HK0 : Hid (Kps (fun k => (w1.heap.size ≤ k ∧ k < wr.heap.size) ∨ k = W.heap.size) Y0 Y0) := Kps.refl _ _
        have HB0 : Hid (Below w.heap.size w Y0 ∧ Blk Y0 W.heap.size 122 #[.slice ua j uc, .slice va j vc, .slice xa j xc]) := ⟨HB.out.1.trans (hbY.mono hws), HB.out.2.2.2.on hbY HB.out.2.2.2.lt⟩
        have HQ : Hid (Blk Y0 w.heap.size 26 #[.int .i64 (wn : Int), .int .i64 pu, .slice a n c] ∧ Blk Y0 (w.heap.size + 1) 122 #[.slice none 0 0, .slice none 0 0, .slice none 0 0] ∧ Blk Y0 w2.heap.size 146 #[.slice aa n ac, .slice ba n bc, .slice ca n cc]) := ⟨HB.out.2.1.on hbY HB.out.2.1.lt, HB.out.2.2.1.on hbY HB.out.2.2.1.lt, hq4⟩
        have HT0 : Hid (Tri 27 w1.heap.size Y0.heap.size Y0 (.slice ua j uc) j us (qapN ls n 0 j) (.slice va j vc) j vs (qapN ls n 1 j) (.slice xa j xc) j xs (qapN ls n 2 j)) := (HT.out.same (Same.of_below hbY (Nat.le_refl _))).wide hbY.size
        have hy00 : Y0.heap.size ≤ Y0.heap.size := Nat.le_refl _
        clear HB HT hb2 hb4 hq4 hR2 hbY hV0 hb0 hs0 hsy
        have HCO0 : Hid (ZAt Y0.drew Y0.drew.heap.size (.slice aa n ac) (colL ls n 0 j)) := (ZOwn.of (HR.out.kept HK0.out (fun k h1 h2 => by omega)).ra).at
        have hq := HB0.out.2
        have hrw := HK0.out.blk HQ.out.2.2 (by omega)
        go_wp2_with fail
        refine wp_region_last [(0, false), (1, false), (2, false), (3, false), (4, true), (5, true), (6, true), (7, false)] 8 (fun wz => Blk wz W.heap.size 122 #[.slice ua j uc, .slice va j vc, .slice xa j xc] ∧ Blk wz w2.heap.size 146 #[.slice aa n ac, .slice ba n bc, .slice ca n cc]) mixesSc (by kernel_rfl) ⟨hq.drew, hrw.drew⟩ ?_
        repeat (refine ord_float rfl rfl (fun K hK => ⟨_, (fun w' hw => by have q0 := hw.1.cell 0; have q1 :=  hw.2.cell 0; go_simp; exact rfl), ?_⟩); go_simp; refine hK _ ?_; clear hK K)
        refine ord_call rfl rfl (fun K hK => ⟨_, _, (by go_simp <;> first | exact rfl | exact ⟨rfl, rfl⟩), ?_⟩)
        refine (HCT.out j 0 _ _ HCO0.out).mono ?_
        rintro e u0 ⟨p0, rfl, hp, hbu⟩
        have hqu : Blk u0 W.heap.size 122 #[.slice ua j uc, .slice va j vc, .slice xa j xc] ∧ Blk u0 w2.heap.size 146 #[.slice aa n ac, .slice ba n bc, .slice ca n cc] := ⟨hq.drew.on hbu hq.lt, hrw.drew.on hbu hrw.lt⟩
        have HBB : Below Y0.heap.size Y0 u0 := (Below.refl _ _).drew.trans hbu
        refine ⟨_, rfl, hqu, ?_⟩
        go_simp
        refine hK _ _ ?_
        clear hK K
        repeat (refine ord_float rfl rfl (fun K hK => ⟨_, (fun w' hw => by have q0 := hw.1.cell 0; have q1 :=  hw.2.cell 0; go_simp; exact rfl), ?_⟩); go_simp; refine hK _ ?_; clear hK K)
        obtain ⟨pa0, pc0, hpv⟩ := row_form hp.1
        subst hpv
        generalize hgl : (pThr (colL ls n 0 j)).length = pl0 at hp ⊢
        have hsu : Y0.heap.size ≤ u0.heap.size := HBB.size
        have hqa : Blk (u0.alloc (.cells #[.slice pa0 pl0 pc0] 27)) W.heap.size 122 #[.slice ua j uc, .slice va j vc, .slice xa j xc] ∧ Blk (u0.alloc (.cells #[.slice pa0 pl0 pc0] 27)) w2.heap.size 146 #[.slice aa n ac, .slice ba n bc, .slice ca n cc] := ⟨hqu.1.alloc _, hqu.2.alloc _⟩
        refine ord_op rfl rfl (fun K hK => ⟨.slice (some ⟨u0.heap.size, 0, none⟩) 1 1, (u0.alloc (.cells #[.slice pa0 pl0 pc0] 27)), (by go_simp <;> rfl), hqa, ?_⟩)
        go_simp
        refine hK _ _ ?_
        clear hK K
        have hsa : (u0.alloc (.cells #[.slice pa0 pl0 pc0] 27)).heap.size = u0.heap.size + 1 := by simp
        have HTu : Hid (Tri 27 w1.heap.size Y0.heap.size (u0.alloc (.cells #[.slice pa0 pl0 pc0] 27)) (.slice ua j uc) j us (qapN ls n 0 j) (.slice va j vc) j vs (qapN ls n 1 j) (.slice xa j xc) j xs (qapN ls n 2 j)) := (HT0.out.same (Same.of_below HBB (Nat.le_refl _))).same (fun k h1 h2 => Below.heap_alloc u0 _ k (by omega))
        have HPa : Hid (ZOwn Y0.heap.size (u0.alloc (.cells #[.slice pa0 pl0 pc0] 27)).heap.size (u0.alloc (.cells #[.slice pa0 pl0 pc0] 27)) (.slice pa0 pl0 pc0) (pThr (colL ls n 0 j))) := (hp.same (fun k h1 h2 => Below.heap_alloc u0 _ k h2)).wide (Nat.le_refl _) (by omega)
        have hrow := HTu.out.u.row
        refine ord_append rfl rfl _ _ 120 rfl w1.heap.size 27 k0 (.slice none 0 0) 1 24 Tryz.underlying120 hk hy0 hy1 hy2 rfl (by decide) _ _ _ rfl hrow ⟨u0.heap.size, 0, none⟩ 1 1 [.slice pa0 pl0 pc0] rfl rfl (cell_one_new _ _ _) (fun u hu => by rw [List.mem_singleton] at hu; subst hu; rfl) hm63 hm47 (by simp; omega) ?_
        intro N0 y0 hrn hgn hat
        have HTn := HTu.out.app hrn hgn hat HPa.out (by omega) (by omega)
        have HAg : Kps (fun k => (Value.slice ua j uc).ownBlock = some k) Y0 y0 := ((Kps.of_below HBB).trans (Kps.of_below ((Below.refl _ _).alloc (Nat.le_refl _) _))).trans (kps_grown hgn)
        have hqy : Blk y0 W.heap.size 122 #[.slice ua j uc, .slice va j vc, .slice xa j xc] ∧ Blk y0 w2.heap.size 146 #[.slice aa n ac, .slice ba n bc, .slice ca n cc] := ⟨HAg.blk hq (fun e => by have := HO0.out _ e; omega), HAg.blk hrw (fun e => by have := HO0.out _ e; omega)⟩
        refine ⟨hqy, fun K hK => ?_⟩
        go_simp
        refine hK _ ?_
        clear hK K
        repeat (refine ord_float rfl rfl (fun K hK => ⟨_, (fun w' hw => by have q0 := hw.1.cell 0; have q1 :=  hw.2.cell 0; go_simp; exact rfl), ?_⟩); go_simp; refine hK _ ?_; clear hK K)
        refine ord_nil ?_
        obtain ⟨na0, nc0, hNv⟩ := row_form hrn
        subst hNv
        have hcy := hqy.1.cell 0
        have hfy := hqy.1.free 0
        refine last_store rfl rfl rfl (y0.setCell ⟨W.heap.size, 0, none⟩ (.slice na0 (j + 1) nc0)) (by go_simp <;> rfl) ?_
        have hsz : (y0.setCell ⟨W.heap.size, 0, none⟩ (.slice na0 (j + 1) nc0)).heap.size = y0.heap.size := by simp [World.setCell]
        have HK1 : Hid (Kps (fun k => (w1.heap.size ≤ k ∧ k < wr.heap.size) ∨ k = W.heap.size) Y0 (y0.setCell ⟨W.heap.size, 0, none⟩ (.slice na0 (j + 1) nc0))) := (HK0.out.trans (HAg.more (fun k e => by have := HO0.out _ e; omega))).setCell (.inr rfl) _
        have HB1 : Hid (Below w.heap.size w (y0.setCell ⟨W.heap.size, 0, none⟩ (.slice na0 (j + 1) nc0)) ∧ Blk (y0.setCell ⟨W.heap.size, 0, none⟩ (.slice na0 (j + 1) nc0)) W.heap.size 122 #[.slice na0 (j + 1) nc0, .slice va j vc, .slice xa j xc]) := ⟨(HAg.bel HB0.out.1 (by omega) (fun k e => by have := HO0.out _ e; omega)).setCell (by show w.heap.size ≤ W.heap.size; omega) _, hqy.1.set 0 _⟩
        have HT1 : Hid (Tri 27 w1.heap.size (y0.setCell ⟨W.heap.size, 0, none⟩ (.slice na0 (j + 1) nc0)).heap.size (y0.setCell ⟨W.heap.size, 0, none⟩ (.slice na0 (j + 1) nc0)) (.slice va j vc) j vs (qapN ls n 1 j) (.slice xa j xc) j xs (qapN ls n 2 j) (.slice na0 (j + 1) nc0) (j + 1) (us ++ [.slice pa0 pl0 pc0]) (qapN ls n 0 (j + 1))) := by
          rw [hsz]
          exact (HTn.same (Same.set _ _ _ (.inl (by show W.heap.size < w1.heap.size; omega)))).rot
        have hy01 : Y0.heap.size ≤ (y0.setCell ⟨W.heap.size, 0, none⟩ (.slice na0 (j + 1) nc0)).heap.size := HK1.out.size
        generalize (y0.setCell ⟨W.heap.size, 0, none⟩ (.slice na0 (j + 1) nc0)) = Y1 at HK1 HB1 HT1 hy01 ⊢
        clear hsz hcy hfy hqy HAg HTn hrn hgn hat hrow HPa HTu hsa hqa hsu hgl hp hbu hqu HBB hq hrw HCO0 HT0 HB0 HK0 hy00
        have HCO1 : Hid (ZAt Y1.drew Y1.drew.heap.size (.slice ba n bc) (colL ls n 1 j)) := (ZOwn.of (HR.out.kept HK1.out (fun k h1 h2 => by omega)).rb).at
        have hq := HB1.out.2
        have hrw := HK1.out.blk HQ.out.2.2 (by omega)
        go_wp2_with fail
        refine wp_region_last [(0, false), (1, false), (2, false), (3, false), (4, true), (5, true), (6, true), (7, false)] 8 (fun wz => Blk wz W.heap.size 122 #[.slice na0 (j + 1) nc0, .slice va j vc, .slice xa j xc] ∧ Blk wz w2.heap.size 146 #[.slice aa n ac, .slice ba n bc, .slice ca n cc]) mixesSc (by kernel_rfl) ⟨hq.drew, hrw.drew⟩ ?_
        repeat (refine ord_float rfl rfl (fun K hK => ⟨_, (fun w' hw => by have q0 := hw.1.cell 1; have q1 :=  hw.2.cell 1; go_simp; exact rfl), ?_⟩); go_simp; refine hK _ ?_; clear hK K)
        refine ord_call rfl rfl (fun K hK => ⟨_, _, (by go_simp <;> first | exact rfl | exact ⟨rfl, rfl⟩), ?_⟩)
        refine (HCT.out j 1 _ _ HCO1.out).mono ?_
        rintro e u1 ⟨p1, rfl, hp, hbu⟩
        have hqu : Blk u1 W.heap.size 122 #[.slice na0 (j + 1) nc0, .slice va j vc, .slice xa j xc] ∧ Blk u1 w2.heap.size 146 #[.slice aa n ac, .slice ba n bc, .slice ca n cc] := ⟨hq.drew.on hbu hq.lt, hrw.drew.on hbu hrw.lt⟩
        have HBB : Below Y1.heap.size Y1 u1 := (Below.refl _ _).drew.trans hbu
        refine ⟨_, rfl, hqu, ?_⟩
        go_simp
        refine hK _ _ ?_
        clear hK K
        repeat (refine ord_float rfl rfl (fun K hK => ⟨_, (fun w' hw => by have q0 := hw.1.cell 1; have q1 :=  hw.2.cell 1; go_simp; exact rfl), ?_⟩); go_simp; refine hK _ ?_; clear hK K)
        obtain ⟨pa1, pc1, hpv⟩ := row_form hp.1
        subst hpv
        generalize hgl : (pThr (colL ls n 1 j)).length = pl1 at hp ⊢
        have hsu : Y1.heap.size ≤ u1.heap.size := HBB.size
        have hqa : Blk (u1.alloc (.cells #[.slice pa1 pl1 pc1] 27)) W.heap.size 122 #[.slice na0 (j + 1) nc0, .slice va j vc, .slice xa j xc] ∧ Blk (u1.alloc (.cells #[.slice pa1 pl1 pc1] 27)) w2.heap.size 146 #[.slice aa n ac, .slice ba n bc, .slice ca n cc] := ⟨hqu.1.alloc _, hqu.2.alloc _⟩
        refine ord_op rfl rfl (fun K hK => ⟨.slice (some ⟨u1.heap.size, 0, none⟩) 1 1, (u1.alloc (.cells #[.slice pa1 pl1 pc1] 27)), (by go_simp <;> rfl), hqa, ?_⟩)
        go_simp
        refine hK _ _ ?_
        clear hK K
        have hsa : (u1.alloc (.cells #[.slice pa1 pl1 pc1] 27)).heap.size = u1.heap.size + 1 := by simp
        have HTu : Hid (Tri 27 w1.heap.size Y1.heap.size (u1.alloc (.cells #[.slice pa1 pl1 pc1] 27)) (.slice va j vc) j vs (qapN ls n 1 j) (.slice xa j xc) j xs (qapN ls n 2 j) (.slice na0 (j + 1) nc0) (j + 1) (us ++ [.slice pa0 pl0 pc0]) (qapN ls n 0 (j + 1))) := (HT1.out.same (Same.of_below HBB (Nat.le_refl _))).same (fun k h1 h2 => Below.heap_alloc u1 _ k (by omega))
        have HPa : Hid (ZOwn Y1.heap.size (u1.alloc (.cells #[.slice pa1 pl1 pc1] 27)).heap.size (u1.alloc (.cells #[.slice pa1 pl1 pc1] 27)) (.slice pa1 pl1 pc1) (pThr (colL ls n 1 j))) := (hp.same (fun k h1 h2 => Below.heap_alloc u1 _ k h2)).wide (Nat.le_refl _) (by omega)
        have hrow := HTu.out.u.row
        refine ord_append rfl rfl _ _ 120 rfl w1.heap.size 27 k0 (.slice none 0 0) 1 24 Tryz.underlying120 hk hy0 hy1 hy2 rfl (by decide) _ _ _ rfl hrow ⟨u1.heap.size, 0, none⟩ 1 1 [.slice pa1 pl1 pc1] rfl rfl (cell_one_new _ _ _) (fun u hu => by rw [List.mem_singleton] at hu; subst hu; rfl) hm63 hm47 (by simp; omega) ?_
        intro N1 y1 hrn hgn hat
        have HTn := HTu.out.app hrn hgn hat HPa.out (by omega) (by omega)
        have HAg : Kps (fun k => (Value.slice va j vc).ownBlock = some k) Y1 y1 := ((Kps.of_below HBB).trans (Kps.of_below ((Below.refl _ _).alloc (Nat.le_refl _) _))).trans (kps_grown hgn)
        have hqy : Blk y1 W.heap.size 122 #[.slice na0 (j + 1) nc0, .slice va j vc, .slice xa j xc] ∧ Blk y1 w2.heap.size 146 #[.slice aa n ac, .slice ba n bc, .slice ca n cc] := ⟨HAg.blk hq (fun e => by have := HO1.out _ e; omega), HAg.blk hrw (fun e => by have := HO1.out _ e; omega)⟩
        refine ⟨hqy, fun K hK => ?_⟩
        go_simp
        refine hK _ ?_
        clear hK K
        repeat (refine ord_float rfl rfl (fun K hK => ⟨_, (fun w' hw => by have q0 := hw.1.cell 1; have q1 :=  hw.2.cell 1; go_simp; exact rfl), ?_⟩); go_simp; refine hK _ ?_; clear hK K)
        refine ord_nil ?_
        obtain ⟨na1, nc1, hNv⟩ := row_form hrn
        subst hNv
        have hcy := hqy.1.cell 1
        have hfy := hqy.1.free 1
        refine last_store rfl rfl rfl (y1.setCell ⟨W.heap.size, 1, none⟩ (.slice na1 (j + 1) nc1)) (by go_simp <;> rfl) ?_
        have hsz : (y1.setCell ⟨W.heap.size, 1, none⟩ (.slice na1 (j + 1) nc1)).heap.size = y1.heap.size := by simp [World.setCell]
        have HK2 : Hid (Kps (fun k => (w1.heap.size ≤ k ∧ k < wr.heap.size) ∨ k = W.heap.size) Y0 (y1.setCell ⟨W.heap.size, 1, none⟩ (.slice na1 (j + 1) nc1))) := (HK1.out.trans (HAg.more (fun k e => by have := HO1.out _ e; omega))).setCell (.inr rfl) _
        have HB2 : Hid (Below w.heap.size w (y1.setCell ⟨W.heap.size, 1, none⟩ (.slice na1 (j + 1) nc1)) ∧ Blk (y1.setCell ⟨W.heap.size, 1, none⟩ (.slice na1 (j + 1) nc1)) W.heap.size 122 #[.slice na0 (j + 1) nc0, .slice na1 (j + 1) nc1, .slice xa j xc]) := ⟨(HAg.bel HB1.out.1 (by omega) (fun k e => by have := HO1.out _ e; omega)).setCell (by show w.heap.size ≤ W.heap.size; omega) _, hqy.1.set 1 _⟩
        have HT2 : Hid (Tri 27 w1.heap.size (y1.setCell ⟨W.heap.size, 1, none⟩ (.slice na1 (j + 1) nc1)).heap.size (y1.setCell ⟨W.heap.size, 1, none⟩ (.slice na1 (j + 1) nc1)) (.slice xa j xc) j xs (qapN ls n 2 j) (.slice na0 (j + 1) nc0) (j + 1) (us ++ [.slice pa0 pl0 pc0]) (qapN ls n 0 (j + 1)) (.slice na1 (j + 1) nc1) (j + 1) (vs ++ [.slice pa1 pl1 pc1]) (qapN ls n 1 (j + 1))) := by
          rw [hsz]
          exact (HTn.same (Same.set _ _ _ (.inl (by show W.heap.size < w1.heap.size; omega)))).rot
        have hy02 : Y0.heap.size ≤ (y1.setCell ⟨W.heap.size, 1, none⟩ (.slice na1 (j + 1) nc1)).heap.size := HK2.out.size
        generalize (y1.setCell ⟨W.heap.size, 1, none⟩ (.slice na1 (j + 1) nc1)) = Y2 at HK2 HB2 HT2 hy02 ⊢
        clear hsz hcy hfy hqy HAg HTn hrn hgn hat hrow HPa HTu hsa hqa hsu hgl hp hbu hqu HBB hq hrw HCO1 HT1 HB1 HK1 hy01
        have HCO2 : Hid (ZAt Y2.drew Y2.drew.heap.size (.slice ca n cc) (colL ls n 2 j)) := (ZOwn.of (HR.out.kept HK2.out (fun k h1 h2 => by omega)).rc).at
        have hq := HB2.out.2
        have hrw := HK2.out.blk HQ.out.2.2 (by omega)
        go_wp2_with fail
        refine wp_region_last [(0, false), (1, false), (2, false), (3, false), (4, true), (5, true), (6, true), (7, false)] 8 (fun wz => Blk wz W.heap.size 122 #[.slice na0 (j + 1) nc0, .slice na1 (j + 1) nc1, .slice xa j xc] ∧ Blk wz w2.heap.size 146 #[.slice aa n ac, .slice ba n bc, .slice ca n cc]) mixesSc (by kernel_rfl) ⟨hq.drew, hrw.drew⟩ ?_
        repeat (refine ord_float rfl rfl (fun K hK => ⟨_, (fun w' hw => by have q0 := hw.1.cell 2; have q1 :=  hw.2.cell 2; go_simp; exact rfl), ?_⟩); go_simp; refine hK _ ?_; clear hK K)
        refine ord_call rfl rfl (fun K hK => ⟨_, _, (by go_simp <;> first | exact rfl | exact ⟨rfl, rfl⟩), ?_⟩)
        refine (HCT.out j 2 _ _ HCO2.out).mono ?_
        rintro e u2 ⟨p2, rfl, hp, hbu⟩
        have hqu : Blk u2 W.heap.size 122 #[.slice na0 (j + 1) nc0, .slice na1 (j + 1) nc1, .slice xa j xc] ∧ Blk u2 w2.heap.size 146 #[.slice aa n ac, .slice ba n bc, .slice ca n cc] := ⟨hq.drew.on hbu hq.lt, hrw.drew.on hbu hrw.lt⟩
        have HBB : Below Y2.heap.size Y2 u2 := (Below.refl _ _).drew.trans hbu
        refine ⟨_, rfl, hqu, ?_⟩
        go_simp
        refine hK _ _ ?_
        clear hK K
        repeat (refine ord_float rfl rfl (fun K hK => ⟨_, (fun w' hw => by have q0 := hw.1.cell 2; have q1 :=  hw.2.cell 2; go_simp; exact rfl), ?_⟩); go_simp; refine hK _ ?_; clear hK K)
        obtain ⟨pa2, pc2, hpv⟩ := row_form hp.1
        subst hpv
        generalize hgl : (pThr (colL ls n 2 j)).length = pl2 at hp ⊢
        have hsu : Y2.heap.size ≤ u2.heap.size := HBB.size
        have hqa : Blk (u2.alloc (.cells #[.slice pa2 pl2 pc2] 27)) W.heap.size 122 #[.slice na0 (j + 1) nc0, .slice na1 (j + 1) nc1, .slice xa j xc] ∧ Blk (u2.alloc (.cells #[.slice pa2 pl2 pc2] 27)) w2.heap.size 146 #[.slice aa n ac, .slice ba n bc, .slice ca n cc] := ⟨hqu.1.alloc _, hqu.2.alloc _⟩
        refine ord_op rfl rfl (fun K hK => ⟨.slice (some ⟨u2.heap.size, 0, none⟩) 1 1, (u2.alloc (.cells #[.slice pa2 pl2 pc2] 27)), (by go_simp <;> rfl), hqa, ?_⟩)
        go_simp
        refine hK _ _ ?_
        clear hK K
        have hsa : (u2.alloc (.cells #[.slice pa2 pl2 pc2] 27)).heap.size = u2.heap.size + 1 := by simp
        have HTu : Hid (Tri 27 w1.heap.size Y2.heap.size (u2.alloc (.cells #[.slice pa2 pl2 pc2] 27)) (.slice xa j xc) j xs (qapN ls n 2 j) (.slice na0 (j + 1) nc0) (j + 1) (us ++ [.slice pa0 pl0 pc0]) (qapN ls n 0 (j + 1)) (.slice na1 (j + 1) nc1) (j + 1) (vs ++ [.slice pa1 pl1 pc1]) (qapN ls n 1 (j + 1))) := (HT2.out.same (Same.of_below HBB (Nat.le_refl _))).same (fun k h1 h2 => Below.heap_alloc u2 _ k (by omega))
        have HPa : Hid (ZOwn Y2.heap.size (u2.alloc (.cells #[.slice pa2 pl2 pc2] 27)).heap.size (u2.alloc (.cells #[.slice pa2 pl2 pc2] 27)) (.slice pa2 pl2 pc2) (pThr (colL ls n 2 j))) := (hp.same (fun k h1 h2 => Below.heap_alloc u2 _ k h2)).wide (Nat.le_refl _) (by omega)
        have hrow := HTu.out.u.row
        refine ord_append rfl rfl _ _ 120 rfl w1.heap.size 27 k0 (.slice none 0 0) 1 24 Tryz.underlying120 hk hy0 hy1 hy2 rfl (by decide) _ _ _ rfl hrow ⟨u2.heap.size, 0, none⟩ 1 1 [.slice pa2 pl2 pc2] rfl rfl (cell_one_new _ _ _) (fun u hu => by rw [List.mem_singleton] at hu; subst hu; rfl) hm63 hm47 (by simp; omega) ?_
        intro N2 y2 hrn hgn hat
        have HTn := HTu.out.app hrn hgn hat HPa.out (by omega) (by omega)
        have HAg : Kps (fun k => (Value.slice xa j xc).ownBlock = some k) Y2 y2 := ((Kps.of_below HBB).trans (Kps.of_below ((Below.refl _ _).alloc (Nat.le_refl _) _))).trans (kps_grown hgn)
        have hqy : Blk y2 W.heap.size 122 #[.slice na0 (j + 1) nc0, .slice na1 (j + 1) nc1, .slice xa j xc] ∧ Blk y2 w2.heap.size 146 #[.slice aa n ac, .slice ba n bc, .slice ca n cc] := ⟨HAg.blk hq (fun e => by have := HO2.out _ e; omega), HAg.blk hrw (fun e => by have := HO2.out _ e; omega)⟩
        refine ⟨hqy, fun K hK => ?_⟩
        go_simp
        refine hK _ ?_
        clear hK K
        repeat (refine ord_float rfl rfl (fun K hK => ⟨_, (fun w' hw => by have q0 := hw.1.cell 2; have q1 :=  hw.2.cell 2; go_simp; exact rfl), ?_⟩); go_simp; refine hK _ ?_; clear hK K)
        refine ord_nil ?_
        obtain ⟨na2, nc2, hNv⟩ := row_form hrn
        subst hNv
        have hcy := hqy.1.cell 2
        have hfy := hqy.1.free 2
        refine last_store rfl rfl rfl (y2.setCell ⟨W.heap.size, 2, none⟩ (.slice na2 (j + 1) nc2)) (by go_simp <;> rfl) ?_
        have hsz : (y2.setCell ⟨W.heap.size, 2, none⟩ (.slice na2 (j + 1) nc2)).heap.size = y2.heap.size := by simp [World.setCell]
        have HK3 : Hid (Kps (fun k => (w1.heap.size ≤ k ∧ k < wr.heap.size) ∨ k = W.heap.size) Y0 (y2.setCell ⟨W.heap.size, 2, none⟩ (.slice na2 (j + 1) nc2))) := (HK2.out.trans (HAg.more (fun k e => by have := HO2.out _ e; omega))).setCell (.inr rfl) _
        have HB3 : Hid (Below w.heap.size w (y2.setCell ⟨W.heap.size, 2, none⟩ (.slice na2 (j + 1) nc2)) ∧ Blk (y2.setCell ⟨W.heap.size, 2, none⟩ (.slice na2 (j + 1) nc2)) W.heap.size 122 #[.slice na0 (j + 1) nc0, .slice na1 (j + 1) nc1, .slice na2 (j + 1) nc2]) := ⟨(HAg.bel HB2.out.1 (by omega) (fun k e => by have := HO2.out _ e; omega)).setCell (by show w.heap.size ≤ W.heap.size; omega) _, hqy.1.set 2 _⟩
        have HT3 : Hid (Tri 27 w1.heap.size (y2.setCell ⟨W.heap.size, 2, none⟩ (.slice na2 (j + 1) nc2)).heap.size (y2.setCell ⟨W.heap.size, 2, none⟩ (.slice na2 (j + 1) nc2)) (.slice na0 (j + 1) nc0) (j + 1) (us ++ [.slice pa0 pl0 pc0]) (qapN ls n 0 (j + 1)) (.slice na1 (j + 1) nc1) (j + 1) (vs ++ [.slice pa1 pl1 pc1]) (qapN ls n 1 (j + 1)) (.slice na2 (j + 1) nc2) (j + 1) (xs ++ [.slice pa2 pl2 pc2]) (qapN ls n 2 (j + 1))) := by
          rw [hsz]
          exact (HTn.same (Same.set _ _ _ (.inl (by show W.heap.size < w1.heap.size; omega)))).rot
        have hy03 : Y0.heap.size ≤ (y2.setCell ⟨W.heap.size, 2, none⟩ (.slice na2 (j + 1) nc2)).heap.size := HK3.out.size
        generalize (y2.setCell ⟨W.heap.size, 2, none⟩ (.slice na2 (j + 1) nc2)) = Y3 at HK3 HB3 HT3 hy03 ⊢
        clear hsz hcy hfy hqy HAg HTn hrn hgn hat hrow HPa HTu hsa hqa hsu hgl hp hbu hqu HBB hq hrw HCO2 HT2 HB2 HK2 hy02
        have HF : Hid (Below w.heap.size w Y3 ∧ Blk Y3 w.heap.size 26 #[.int .i64 (wn : Int), .int .i64 pu, .slice a n c] ∧ Blk Y3 (w.heap.size + 1) 122 #[.slice none 0 0, .slice none 0 0, .slice none 0 0] ∧ Blk Y3 W.heap.size 122 #[.slice na0 (j + 1) nc0, .slice na1 (j + 1) nc1, .slice na2 (j + 1) nc2]) := ⟨HB3.out.1, HK3.out.blk HQ.out.1 (by omega), HK3.out.blk HQ.out.2.1 (by omega), HB3.out.2⟩
        have hs3 : w1.heap.size ≤ Y3.heap.size := by omega
        clear HK3 HB3 HQ HR HCT HCC
        go_wp2
        go_roundw
        case rel => exact ⟨j + 1, _, _, _, _, _, _, by go_num, hlt, HF, HT3, hs3⟩
        case measure => simp [intOf]; omega
      · have hlt' : ¬ (j : Int) < (wn : Int) := by omega
        obtain rfl : wn = j := by omega
        have hsys := HB.out.2.2.2
        have hres := HB.out.2.2.1
        have HBB : Hid (Below w.heap.size w wr) := HB.out.1
        have hws := HB.out.1.size
        clear HB HCT HCC
        go_wp2_with (first | (refine load_blk rfl rfl rfl hsys Tryz.underlying122 infoQa ?_) | (refine store_blkS (cs' := #[.slice ua wn uc, .slice va wn vc, .slice xa wn xc]) rfl rfl rfl rfl rfl hres infoQa rfl (onesQa _ _ _ _ _ _ _ _ _) ?_; intro V8 h8 hheap hoth hbel; have hb8 := hbel _ _ (by omega) HBB.out; have hb9 := hbel 0 wr (Nat.zero_le _) (Below.refl _ _); clear hoth hbel))
        have hs8 : wr.heap.size ≤ V8.heap.size := hb9.size
        have hTT := ((HT.out.same (w' := V8) (fun k h1 h2 => hheap k (by omega))).wide hs8).low (lo' := w.heap.size) (by omega)
        refine bodyPost_ret_by (result_Btmp rfl rfl rfl h8 Tryz.underlying122 infoQa) rfl (.inr ⟨HOK.out, _, _, _, us, vs, xs, rfl, ?_, hb8⟩)
        rw [Int.toNat_natCast]
        exact hTT

end Go.Proofs.YthnahalboomkoaaGreat
