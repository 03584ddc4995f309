/-
  Texts of one's own, joined.
-/
import Derived.Test.YthnahalboomkoaaGreatJoined19
import Derived.Test.YthnahalboomkoaaGreatQapS2
import Derived.Test.YthnahalboomkoaaGreatJoined16
import Derived.Test.YthnahalboomkoaaGreatJoined10
import Derived.Test.YthnahalboomkoaaGreatJoined6
import Derived.Test.YthnahalboomkoaaGreatJoined15

/-
  The walk of the program's rows as one product: a polynomial of each wire.
  (-DROP-: what the seat lacks is left out.)
-/
namespace Go.Proofs.YthnahalboomkoaaGreat
open Go.RowKit

set_option maxHeartbeats 6400000 in
set_option maxRecDepth 100000 in
theorem iQapOf_any (wi pu : Int) (hwf : (Lit.int .i64 wi).wf = true) (a : Option Addr) (n c : Nat) (hn : n ≤ 9223372036854775807) (ls : List (List Int)) (hz : ∀ j, (ls.getD j []).length ≤ 9223372036854775807) (w : World) (hA : NAt 3 w w.heap.size (.slice a n c) n ls) :
    Calls Tryz.prog 123 #[.agg #[.int .i64 wi, .int .i64 pu, .slice a n c]] w fun e w' => QapEnd w wi pu n ls e w' := by
  obtain ⟨k0, hk, hy0, hy1, hy2⟩ := info_parts infoIs
  obtain ⟨W, hW, hb, hs, hr⟩ := boxes1r w 26 122 #[.int .i64 wi, .int .i64 pu, .slice a n c] #[.slice none 0 0, .slice none 0 0, .slice none 0 0]
  have HA : Hid (NAt 3 w w.heap.size (.slice a n c) n ls) := hA
  have CS : Hid (∀ V, Below w.heap.size w V → Calls Tryz.prog 57 #[.agg #[.int .i64 wi, .int .i64 pu, .slice a n c]] V fun e w' => e = .returned (.bool (sysOk wi pu n ls)) ∧ Below V.heap.size V w') := fun V hV => iSysOk_any wi pu hwf a n c hn ls hz V ((hA.on hV).wide hV.size)
  have H0 : Hid (Below w.heap.size w W ∧ Blk W w.heap.size 26 #[.int .i64 wi, .int .i64 pu, .slice a n c] ∧ Blk W (w.heap.size + 1) 122 #[.slice none 0 0, .slice none 0 0, .slice none 0 0]) := ⟨hb, hs, hr⟩
  have hs1 : w.heap.size + 1 < W.heap.size := hr.lt
  have hlen : Hid (ls.length = n * 3) := hA.1
  clear hA hb hr hz hs
  obtain ⟨V0, hV0, hb0, hs0⟩ := box1 W 122 #[.slice none 0 0, .slice none 0 0, .slice none 0 0]
  go_enter Tryz.func123, Tryz.ntmps123
  go_wp2_with (first | (refine store_blkS (cs' := #[.slice none 0 0, .slice none 0 0, .slice none 0 0]) rfl rfl rfl rfl rfl hs0 infoQa rfl (onesQa _ _ _ _ _ _ _ _ _) ?_; intro V4 hq4 hheap hoth hbel; have hb4 := hbel _ _ (Nat.le_refl _) hb0; clear hoth hbel hheap; have hsy := H0.out.2.1.on hb4 H0.out.2.1.lt) | (refine load_blk rfl rfl rfl hsy Tryz.underlying26 infoSy ?_))
  have hs4 : W.heap.size < V4.heap.size := hq4.lt
  have hwV4 : Below w.heap.size w V4 := H0.out.1.trans (hb4.mono (by omega))
  refine (CS.out _ hwV4).mono ?_
  rintro e w1 ⟨rfl, hb1⟩
  have H1 : Hid (Below w.heap.size w w1 ∧ Blk w1 w.heap.size 26 #[.int .i64 wi, .int .i64 pu, .slice a n c] ∧ Blk w1 (w.heap.size + 1) 122 #[.slice none 0 0, .slice none 0 0, .slice none 0 0] ∧ Blk w1 W.heap.size 122 #[.slice none 0 0, .slice none 0 0, .slice none 0 0]) := ⟨hwV4.trans (hb1.mono hwV4.size), hsy.on hb1 hsy.lt, (H0.out.2.2.on hb4 H0.out.2.2.lt).on hb1 (by omega), hq4.on hb1 hq4.lt⟩
  have hs1w : W.heap.size < w1.heap.size := H1.out.2.2.2.lt
  clear hb1 H0 CS hwV4 hs4 hb4 hq4 hsy hV0 hb0 hs0 hW
  cases hok : sysOk wi pu n ls
  · have hres := H1.out.2.2.1
    have hq := H1.out.2.2.2
    go_wp2_with (first | (refine load_blk rfl rfl rfl hq Tryz.underlying122 infoQa ?_) | (refine store_blkS (cs' := #[.slice none 0 0, .slice none 0 0, .slice none 0 0]) rfl rfl rfl rfl rfl hres infoQa rfl (onesQa _ _ _ _ _ _ _ _ _) ?_; intro V8 h8 hheap hoth hbel; have hb8 := hbel _ _ (by omega) H1.out.1; clear hoth hbel hheap))
    refine bodyPost_ret_by (result_Btmp rfl rfl rfl h8 Tryz.underlying122 infoQa) rfl (.inl ⟨hok, rfl, hb8⟩)
  · have HOK : Hid (sysOk wi pu n ls = true) := hok
    have hok1 := hok
    unfold sysOk at hok1
    simp only [Bool.and_eq_true, decide_eq_true_eq] at hok1
    obtain ⟨⟨hw1, hw2⟩, _, ⟨hn1, hn2⟩, hall⟩ := hok1
    have HWD : Hid (∀ k, k < n * 3 → ((ls.getD k []).length : Int) = wi) := fun k hk => wide_lenQ hall (by rw [hlen.out]; exact hk)
    obtain ⟨wn, rfl⟩ : ∃ wn : Nat, wi = (wn : Int) := ⟨wi.toNat, by omega⟩
    have hn16 : n ≤ 16 := by omega
    clear hall hok hlen
    have hcw := H1.out.2.1.cell 0
    replace hcw : w1.cell? ⟨w.heap.size, 0, none⟩ = some (.int .i64 (wn : Int)) := hcw
    have HCT : Hid (∀ (j t : Nat) (v : Value) (W' : World), ZAt W' W'.heap.size v (colL ls n t j) → Calls Tryz.prog 179 #[v] W' fun e w' => ∃ u, e = .returned u ∧ ZOwn W'.heap.size w'.heap.size w' u (pThr (colL ls n t j)) ∧ Below W'.heap.size W' w') := fun j t v W' hv => iThr_any v _ (by rw [colL_len]; omega) W' hv
    have HCC : Hid (∀ (j : Nat), j < wn → ∀ V, Below w.heap.size w V → Calls Tryz.prog 178 #[.agg #[.int .i64 (wn : Int), .int .i64 pu, .slice a n c], .int .i64 (j : Int)] V fun e w' => ∃ x y z, e = .returned (.agg #[x, y, z]) ∧ Row3s V.heap.size w' x y z (colL ls n 0 j) (colL ls n 1 j) (colL ls n 2 j) ∧ Below V.heap.size V w') := fun j hj V hV => iCol_any (wn : Int) pu a n c wn j hn16 hj ls (fun k hk => by have := HWD.out k hk; omega) V ((HA.out.on hV).wide hV.size)
    clear HA HWD
    go_wp2
    clear hcw
    go_loopw [14] (fun iv wr => ∃ (j : Nat) (U V X : Value) (us vs xs : List Value), iv = .int .i64 (j : Int) ∧ j ≤ wn ∧ Hid (Below w.heap.size w wr ∧ Blk wr w.heap.size 26 #[.int .i64 (wn : Int), .int .i64 pu, .slice a n c] ∧ Blk wr (w.heap.size + 1) 122 #[.slice none 0 0, .slice none 0 0, .slice none 0 0] ∧ Blk wr W.heap.size 122 #[U, V, X]) ∧ Hid (Tri 27 w1.heap.size wr.heap.size wr U j us (qapN ls n 0 j) V j vs (qapN ls n 1 j) X j xs (qapN ls n 2 j)) ∧ w1.heap.size ≤ wr.heap.size) (fun iv _ => wn - (intOf iv).toNat)
    case atStart => exact ⟨0, _, _, _, [], [], [], rfl, Nat.zero_le _, H1, ⟨nown_nil _ _ _ _ _, nown_nil _ _ _ _ _, nown_nil _ _ _ _ _, fun k h => by rcases h with h | ⟨i, hi, _⟩; cases h; omega, fun k h => by rcases h with h | ⟨i, hi, _⟩; cases h; omega, fun k h => by rcases h with h | ⟨i, hi, _⟩; cases h; omega⟩, Nat.le_refl _⟩
    case round =>
      obtain ⟨j, U, V, X, us, vs, xs, rfl, hj, HB, HT, hsr⟩ := hrel
      clear H1
      obtain ⟨ua, uc, hu⟩ := row_form HT.out.u.row
      subst hu
      obtain ⟨va, vc, hv⟩ := row_form HT.out.v.row
      subst hv
      obtain ⟨xa, xc, hx⟩ := row_form HT.out.x.row
      subst hx
      by_cases hlt : j < wn
      · have hlt' : (j : Int) < (wn : Int) := by omega
        have hj0 : (0 : Int) ≤ (j : Int) := by omega
        have hm63 : j + 1 ≤ maxLen := by unfold maxLen; omega
        have hm47 : (j + 1) * 24 ≤ 140737488355328 := by omega
        have HO0 : Hid (∀ k, (Value.slice ua j uc).ownBlock = some k → w1.heap.size ≤ k ∧ k < wr.heap.size) := fun k hk => HT.out.u.range (.inl hk)
        have HO1 : Hid (∀ k, (Value.slice va j vc).ownBlock = some k → w1.heap.size ≤ k ∧ k < wr.heap.size) := fun k hk => HT.out.v.range (.inl hk)
        have HO2 : Hid (∀ k, (Value.slice xa j xc).ownBlock = some k → w1.heap.size ≤ k ∧ k < wr.heap.size) := fun k hk => HT.out.x.range (.inl hk)
        have HQ0 : Hid (qapN ls n 0 (j + 1) = qapN ls n 0 j ++ [pThr (colL ls n 0 j)]) := rfl
        have HQ1 : Hid (qapN ls n 1 (j + 1) = qapN ls n 1 j ++ [pThr (colL ls n 1 j)]) := rfl
        have HQ2 : Hid (qapN ls n 2 (j + 1) = qapN ls n 2 j ++ [pThr (colL ls n 2 j)]) := rfl
        have hsy := HB.out.2.1
        have hws := HB.out.1.size
        go_wp2_with (refine load_blk rfl rfl rfl hsy Tryz.underlying26 infoSy ?_)
        refine (HCC.out j hlt _ HB.out.1).mono ?_
        rintro e w2 ⟨x, y, z, rfl, hR2, hb2⟩
        obtain ⟨aa, ac, hav⟩ := row_form hR2.ra
        subst hav
        obtain ⟨ba, bc, hbv⟩ := row_form hR2.rb
        subst hbv
        obtain ⟨ca, cc, hcv⟩ := row_form hR2.rc
        subst hcv
        rw [colL_len, colL_len, colL_len] at *
        have hs2 : wr.heap.size ≤ w2.heap.size := hb2.size
        obtain ⟨V0, hV0, hb0, hs0⟩ := box1 w2 146 #[.slice none 0 0, .slice none 0 0, .slice none 0 0]
        go_wp2_with (refine store_blkS (cs' := #[.slice aa n ac, .slice ba n bc, .slice ca n cc]) rfl rfl rfl rfl rfl hs0 infoRw rfl (onesRw _ _ _ _ _ _ _ _ _) ?_; intro Y0 hq4 hheap hoth hbel; have hb4 := hbel _ _ (Nat.le_refl _) hb0; clear hoth hbel hheap)
        have hsY : w2.heap.size < Y0.heap.size := hq4.lt
        have hbY : Below wr.heap.size wr Y0 := hb2.trans (hb4.mono hs2)
        have HR : Hid (Row3s wr.heap.size Y0 (.slice aa n ac) (.slice ba n bc) (.slice ca n cc) (colL ls n 0 j) (colL ls n 1 j) (colL ls n 2 j)) := hR2.kept (Kps.of_below (S := fun _ => False) hb4) (fun _ _ h => h)
        have HK0 : Hid (Kps (fun k => (w1.heap.size ≤ k ∧ k < wr.heap.size) ∨ k = W.heap.size) Y0 Y0) := Kps.refl _ _
        have HB0 : Hid (Below w.heap.size w Y0 ∧ Blk Y0 W.heap.size 122 #[.slice ua j uc, .slice va j vc, .slice xa j xc]) := ⟨HB.out.1.trans (hbY.mono hws), HB.out.2.2.2.on hbY HB.out.2.2.2.lt⟩
        have HQ : Hid (Blk Y0 w.heap.size 26 #[.int .i64 (wn : Int), .int .i64 pu, .slice a n c] ∧ Blk Y0 (w.heap.size + 1) 122 #[.slice none 0 0, .slice none 0 0, .slice none 0 0] ∧ Blk Y0 w2.heap.size 146 #[.slice aa n ac, .slice ba n bc, .slice ca n cc]) := ⟨HB.out.2.1.on hbY HB.out.2.1.lt, HB.out.2.2.1.on hbY HB.out.2.2.1.lt, hq4⟩
        have HT0 : Hid (Tri 27 w1.heap.size Y0.heap.size Y0 (.slice ua j uc) j us (qapN ls n 0 j) (.slice va j vc) j vs (qapN ls n 1 j) (.slice xa j xc) j xs (qapN ls n 2 j)) := (HT.out.same (Same.of_below hbY (Nat.le_refl _))).wide hbY.size
        have hy00 : Y0.heap.size ≤ Y0.heap.size := Nat.le_refl _
        clear HB HT hb2 hb4 hq4 hR2 hbY hV0 hb0 hs0 hsy
        have HCO0 : Hid (ZAt Y0.drew Y0.drew.heap.size (.slice aa n ac) (colL ls n 0 j)) := (ZOwn.of (HR.out.kept HK0.out (fun k h1 h2 => by omega)).ra).at
        have hq := HB0.out.2
        have hrw := HK0.out.blk HQ.out.2.2 (by omega)
        go_wp2_with fail
        refine wp_region_last [(0, false), (1, false), (2, false), (3, false), (4, true), (5, true), (6, true), (7, false)] 8 (fun wz => Blk wz W.heap.size 122 #[.slice ua j uc, .slice va j vc, .slice xa j xc] ∧ Blk wz w2.heap.size 146 #[.slice aa n ac, .slice ba n bc, .slice ca n cc]) mixesSc (by kernel_rfl) ⟨hq.drew, hrw.drew⟩ ?_
        repeat (refine ord_float rfl rfl (fun K hK => ⟨_, (fun w' hw => by have q0 := hw.1.cell 0; have q1 :=  hw.2.cell 0; go_simp; exact rfl), ?_⟩); go_simp; refine hK _ ?_; clear hK K)
        refine ord_call rfl rfl (fun K hK => ⟨_, _, (by go_simp <;> first | exact rfl | exact ⟨rfl, rfl⟩), ?_⟩)
        refine (HCT.out j 0 _ _ HCO0.out).mono ?_
        rintro e u0 ⟨p0, rfl, hp, hbu⟩
        have hqu : Blk u0 W.heap.size 122 #[.slice ua j uc, .slice va j vc, .slice xa j xc] ∧ Blk u0 w2.heap.size 146 #[.slice aa n ac, .slice ba n bc, .slice ca n cc] := ⟨hq.drew.on hbu hq.lt, hrw.drew.on hbu hrw.lt⟩
        have HBB : Below Y0.heap.size Y0 u0 := (Below.refl _ _).drew.trans hbu
        refine ⟨_, rfl, hqu, ?_⟩
        go_simp
        refine hK _ _ ?_
        clear hK K
        repeat (refine ord_float rfl rfl (fun K hK => ⟨_, (fun w' hw => by have q0 := hw.1.cell 0; have q1 :=  hw.2.cell 0; go_simp; exact rfl), ?_⟩); go_simp; refine hK _ ?_; clear hK K)
        obtain ⟨pa0, pc0, hpv⟩ := row_form hp.1
        subst hpv
        generalize hgl : (pThr (colL ls n 0 j)).length = pl0 at hp ⊢
        have hsu : Y0.heap.size ≤ u0.heap.size := HBB.size
        have hqa : Blk (u0.alloc (.cells #[.slice pa0 pl0 pc0] 27)) W.heap.size 122 #[.slice ua j uc, .slice va j vc, .slice xa j xc] ∧ Blk (u0.alloc (.cells #[.slice pa0 pl0 pc0] 27)) w2.heap.size 146 #[.slice aa n ac, .slice ba n bc, .slice ca n cc] := ⟨hqu.1.alloc _, hqu.2.alloc _⟩
        refine ord_op rfl rfl (fun K hK => ⟨.slice (some ⟨u0.heap.size, 0, none⟩) 1 1, (u0.alloc (.cells #[.slice pa0 pl0 pc0] 27)), (by go_simp <;> rfl), hqa, ?_⟩)
        go_simp
        refine hK _ _ ?_
        clear hK K
        have hsa : (u0.alloc (.cells #[.slice pa0 pl0 pc0] 27)).heap.size = u0.heap.size + 1 := by simp
        have HTu : Hid (Tri 27 w1.heap.size Y0.heap.size (u0.alloc (.cells #[.slice pa0 pl0 pc0] 27)) (.slice ua j uc) j us (qapN ls n 0 j) (.slice va j vc) j vs (qapN ls n 1 j) (.slice xa j xc) j xs (qapN ls n 2 j)) := (HT0.out.same (Same.of_below HBB (Nat.le_refl _))).same (fun k h1 h2 => Below.heap_alloc u0 _ k (by omega))
        have HPa : Hid (ZOwn Y0.heap.size (u0.alloc (.cells #[.slice pa0 pl0 pc0] 27)).heap.size (u0.alloc (.cells #[.slice pa0 pl0 pc0] 27)) (.slice pa0 pl0 pc0) (pThr (colL ls n 0 j))) := (hp.same (fun k h1 h2 => Below.heap_alloc u0 _ k h2)).wide (Nat.le_refl _) (by omega)
        have hrow := HTu.out.u.row
        refine ord_append rfl rfl _ _ 120 rfl w1.heap.size 27 k0 (.slice none 0 0) 1 24 Tryz.underlying120 hk hy0 hy1 hy2 rfl (by decide) _ _ _ rfl hrow ⟨u0.heap.size, 0, none⟩ 1 1 [.slice pa0 pl0 pc0] rfl rfl (cell_one_new _ _ _) (fun u hu => by rw [List.mem_singleton] at hu; subst hu; rfl) hm63 hm47 (by simp; omega) ?_
        intro N0 y0 hrn hgn hat
        have HTn := HTu.out.app hrn hgn hat HPa.out (by omega) (by omega)
        have HAg : Kps (fun k => (Value.slice ua j uc).ownBlock = some k) Y0 y0 := ((Kps.of_below HBB).trans (Kps.of_below ((Below.refl _ _).alloc (Nat.le_refl _) _))).trans (kps_grown hgn)
        have hqy : Blk y0 W.heap.size 122 #[.slice ua j uc, .slice va j vc, .slice xa j xc] ∧ Blk y0 w2.heap.size 146 #[.slice aa n ac, .slice ba n bc, .slice ca n cc] := ⟨HAg.blk hq (fun e => by have := HO0.out _ e; omega), HAg.blk hrw (fun e => by have := HO0.out _ e; omega)⟩
        refine ⟨hqy, fun K hK => ?_⟩
        go_simp
        refine hK _ ?_
        clear hK K
        repeat (refine ord_float rfl rfl (fun K hK => ⟨_, (fun w' hw => by have q0 := hw.1.cell 0; have q1 :=  hw.2.cell 0; go_simp; exact rfl), ?_⟩); go_simp; refine hK _ ?_; clear hK K)
        refine ord_nil ?_
        obtain ⟨na0, nc0, hNv⟩ := row_form hrn
        subst hNv
        have hcy := hqy.1.cell 0
        have hfy := hqy.1.free 0
        refine last_store rfl rfl rfl (y0.setCell ⟨W.heap.size, 0, none⟩ (.slice na0 (j + 1) nc0)) (by go_simp <;> rfl) ?_
        have hsz : (y0.setCell ⟨W.heap.size, 0, none⟩ (.slice na0 (j + 1) nc0)).heap.size = y0.heap.size := by simp [World.setCell]
        have HK1 : Hid (Kps (fun k => (w1.heap.size ≤ k ∧ k < wr.heap.size) ∨ k = W.heap.size) Y0 (y0.setCell ⟨W.heap.size, 0, none⟩ (.slice na0 (j + 1) nc0))) := (HK0.out.trans (HAg.more (fun k e => by have := HO0.out _ e; omega))).setCell (.inr rfl) _
        have HB1 : Hid (Below w.heap.size w (y0.setCell ⟨W.heap.size, 0, none⟩ (.slice na0 (j + 1) nc0)) ∧ Blk (y0.setCell ⟨W.heap.size, 0, none⟩ (.slice na0 (j + 1) nc0)) W.heap.size 122 #[.slice na0 (j + 1) nc0, .slice va j vc, .slice xa j xc]) := ⟨(HAg.bel HB0.out.1 (by omega) (fun k e => by have := HO0.out _ e; omega)).setCell (by show w.heap.size ≤ W.heap.size; omega) _, hqy.1.set 0 _⟩
        have HT1 : Hid (Tri 27 w1.heap.size (y0.setCell ⟨W.heap.size, 0, none⟩ (.slice na0 (j + 1) nc0)).heap.size (y0.setCell ⟨W.heap.size, 0, none⟩ (.slice na0 (j + 1) nc0)) (.slice va j vc) j vs (qapN ls n 1 j) (.slice xa j xc) j xs (qapN ls n 2 j) (.slice na0 (j + 1) nc0) (j + 1) (us ++ [.slice pa0 pl0 pc0]) (qapN ls n 0 (j + 1))) := by
          rw [hsz]
          exact (HTn.same (Same.set _ _ _ (.inl (by show W.heap.size < w1.heap.size; omega)))).rot
        have hy01 : Y0.heap.size ≤ (y0.setCell ⟨W.heap.size, 0, none⟩ (.slice na0 (j + 1) nc0)).heap.size := HK1.out.size
        generalize (y0.setCell ⟨W.heap.size, 0, none⟩ (.slice na0 (j + 1) nc0)) = Y1 at HK1 HB1 HT1 hy01 ⊢
        clear hsz hcy hfy hqy HAg HTn hrn hgn hat hrow HPa HTu hsa hqa hsu hgl hp hbu hqu HBB hq hrw HCO0 HT0 HB0 HK0 hy00
        have HCO1 : Hid (ZAt Y1.drew Y1.drew.heap.size (.slice ba n bc) (colL ls n 1 j)) := (ZOwn.of (HR.out.kept HK1.out (fun k h1 h2 => by omega)).rb).at
        have hq := HB1.out.2
        have hrw := HK1.out.blk HQ.out.2.2 (by omega)
        go_wp2_with fail
        refine wp_region_last [(0, false), (1, false), (2, false), (3, false), (4, true), (5, true), (6, true), (7, false)] 8 (fun wz => Blk wz W.heap.size 122 #[.slice na0 (j + 1) nc0, .slice va j vc, .slice xa j xc] ∧ Blk wz w2.heap.size 146 #[.slice aa n ac, .slice ba n bc, .slice ca n cc]) mixesSc (by kernel_rfl) ⟨hq.drew, hrw.drew⟩ ?_
        repeat (refine ord_float rfl rfl (fun K hK => ⟨_, (fun w' hw => by have q0 := hw.1.cell 1; have q1 :=  hw.2.cell 1; go_simp; exact rfl), ?_⟩); go_simp; refine hK _ ?_; clear hK K)
        refine ord_call rfl rfl (fun K hK => ⟨_, _, (by go_simp <;> first | exact rfl | exact ⟨rfl, rfl⟩), ?_⟩)
        refine (HCT.out j 1 _ _ HCO1.out).mono ?_
        rintro e u1 ⟨p1, rfl, hp, hbu⟩
        have hqu : Blk u1 W.heap.size 122 #[.slice na0 (j + 1) nc0, .slice va j vc, .slice xa j xc] ∧ Blk u1 w2.heap.size 146 #[.slice aa n ac, .slice ba n bc, .slice ca n cc] := ⟨hq.drew.on hbu hq.lt, hrw.drew.on hbu hrw.lt⟩
        have HBB : Below Y1.heap.size Y1 u1 := (Below.refl _ _).drew.trans hbu
        refine ⟨_, rfl, hqu, ?_⟩
        go_simp
        refine hK _ _ ?_
        clear hK K
        repeat (refine ord_float rfl rfl (fun K hK => ⟨_, (fun w' hw => by have q0 := hw.1.cell 1; have q1 :=  hw.2.cell 1; go_simp; exact rfl), ?_⟩); go_simp; refine hK _ ?_; clear hK K)
        obtain ⟨pa1, pc1, hpv⟩ := row_form hp.1
        subst hpv
        generalize hgl : (pThr (colL ls n 1 j)).length = pl1 at hp ⊢
        have hsu : Y1.heap.size ≤ u1.heap.size := HBB.size
        have hqa : Blk (u1.alloc (.cells #[.slice pa1 pl1 pc1] 27)) W.heap.size 122 #[.slice na0 (j + 1) nc0, .slice va j vc, .slice xa j xc] ∧ Blk (u1.alloc (.cells #[.slice pa1 pl1 pc1] 27)) w2.heap.size 146 #[.slice aa n ac, .slice ba n bc, .slice ca n cc] := ⟨hqu.1.alloc _, hqu.2.alloc _⟩
        refine ord_op rfl rfl (fun K hK => ⟨.slice (some ⟨u1.heap.size, 0, none⟩) 1 1, (u1.alloc (.cells #[.slice pa1 pl1 pc1] 27)), (by go_simp <;> rfl), hqa, ?_⟩)
        go_simp
        refine hK _ _ ?_
        clear hK K
        have hsa : (u1.alloc (.cells #[.slice pa1 pl1 pc1] 27)).heap.size = u1.heap.size + 1 := by simp
        have HTu : Hid (Tri 27 w1.heap.size Y1.heap.size (u1.alloc (.cells #[.slice pa1 pl1 pc1] 27)) (.slice va j vc) j vs (qapN ls n 1 j) (.slice xa j xc) j xs (qapN ls n 2 j) (.slice na0 (j + 1) nc0) (j + 1) (us ++ [.slice pa0 pl0 pc0]) (qapN ls n 0 (j + 1))) := (HT1.out.same (Same.of_below HBB (Nat.le_refl _))).same (fun k h1 h2 => Below.heap_alloc u1 _ k (by omega))
        have HPa : Hid (ZOwn Y1.heap.size (u1.alloc (.cells #[.slice pa1 pl1 pc1] 27)).heap.size (u1.alloc (.cells #[.slice pa1 pl1 pc1] 27)) (.slice pa1 pl1 pc1) (pThr (colL ls n 1 j))) := (hp.same (fun k h1 h2 => Below.heap_alloc u1 _ k h2)).wide (Nat.le_refl _) (by omega)
        have hrow := HTu.out.u.row
        refine ord_append rfl rfl _ _ 120 rfl w1.heap.size 27 k0 (.slice none 0 0) 1 24 Tryz.underlying120 hk hy0 hy1 hy2 rfl (by decide) _ _ _ rfl hrow ⟨u1.heap.size, 0, none⟩ 1 1 [.slice pa1 pl1 pc1] rfl rfl (cell_one_new _ _ _) (fun u hu => by rw [List.mem_singleton] at hu; subst hu; rfl) hm63 hm47 (by simp; omega) ?_
        intro N1 y1 hrn hgn hat
        have HTn := HTu.out.app hrn hgn hat HPa.out (by omega) (by omega)
        have HAg : Kps (fun k => (Value.slice va j vc).ownBlock = some k) Y1 y1 := ((Kps.of_below HBB).trans (Kps.of_below ((Below.refl _ _).alloc (Nat.le_refl _) _))).trans (kps_grown hgn)
        have hqy : Blk y1 W.heap.size 122 #[.slice na0 (j + 1) nc0, .slice va j vc, .slice xa j xc] ∧ Blk y1 w2.heap.size 146 #[.slice aa n ac, .slice ba n bc, .slice ca n cc] := ⟨HAg.blk hq (fun e => by have := HO1.out _ e; omega), HAg.blk hrw (fun e => by have := HO1.out _ e; omega)⟩
        refine ⟨hqy, fun K hK => ?_⟩
        go_simp
        refine hK _ ?_
        clear hK K
        repeat (refine ord_float rfl rfl (fun K hK => ⟨_, (fun w' hw => by have q0 := hw.1.cell 1; have q1 :=  hw.2.cell 1; go_simp; exact rfl), ?_⟩); go_simp; refine hK _ ?_; clear hK K)
        refine ord_nil ?_
        obtain ⟨na1, nc1, hNv⟩ := row_form hrn
        subst hNv
        have hcy := hqy.1.cell 1
        have hfy := hqy.1.free 1
        refine last_store rfl rfl rfl (y1.setCell ⟨W.heap.size, 1, none⟩ (.slice na1 (j + 1) nc1)) (by go_simp <;> rfl) ?_
        have hsz : (y1.setCell ⟨W.heap.size, 1, none⟩ (.slice na1 (j + 1) nc1)).heap.size = y1.heap.size := by simp [World.setCell]
        have HK2 : Hid (Kps (fun k => (w1.heap.size ≤ k ∧ k < wr.heap.size) ∨ k = W.heap.size) Y0 (y1.setCell ⟨W.heap.size, 1, none⟩ (.slice na1 (j + 1) nc1))) := (HK1.out.trans (HAg.more (fun k e => by have := HO1.out _ e; omega))).setCell (.inr rfl) _
        have HB2 : Hid (Below w.heap.size w (y1.setCell ⟨W.heap.size, 1, none⟩ (.slice na1 (j + 1) nc1)) ∧ Blk (y1.setCell ⟨W.heap.size, 1, none⟩ (.slice na1 (j + 1) nc1)) W.heap.size 122 #[.slice na0 (j + 1) nc0, .slice na1 (j + 1) nc1, .slice xa j xc]) := ⟨(HAg.bel HB1.out.1 (by omega) (fun k e => by have := HO1.out _ e; omega)).setCell (by show w.heap.size ≤ W.heap.size; omega) _, hqy.1.set 1 _⟩
        have HT2 : Hid (Tri 27 w1.heap.size (y1.setCell ⟨W.heap.size, 1, none⟩ (.slice na1 (j + 1) nc1)).heap.size (y1.setCell ⟨W.heap.size, 1, none⟩ (.slice na1 (j + 1) nc1)) (.slice xa j xc) j xs (qapN ls n 2 j) (.slice na0 (j + 1) nc0) (j + 1) (us ++ [.slice pa0 pl0 pc0]) (qapN ls n 0 (j + 1)) (.slice na1 (j + 1) nc1) (j + 1) (vs ++ [.slice pa1 pl1 pc1]) (qapN ls n 1 (j + 1))) := by
          rw [hsz]
          exact (HTn.same (Same.set _ _ _ (.inl (by show W.heap.size < w1.heap.size; omega)))).rot
        have hy02 : Y0.heap.size ≤ (y1.setCell ⟨W.heap.size, 1, none⟩ (.slice na1 (j + 1) nc1)).heap.size := HK2.out.size
        generalize (y1.setCell ⟨W.heap.size, 1, none⟩ (.slice na1 (j + 1) nc1)) = Y2 at HK2 HB2 HT2 hy02 ⊢
        clear hsz hcy hfy hqy HAg HTn hrn hgn hat hrow HPa HTu hsa hqa hsu hgl hp hbu hqu HBB hq hrw HCO1 HT1 HB1 HK1 hy01
        have HCO2 : Hid (ZAt Y2.drew Y2.drew.heap.size (.slice ca n cc) (colL ls n 2 j)) := (ZOwn.of (HR.out.kept HK2.out (fun k h1 h2 => by omega)).rc).at
        have hq := HB2.out.2
        have hrw := HK2.out.blk HQ.out.2.2 (by omega)
        go_wp2_with fail
        refine wp_region_last [(0, false), (1, false), (2, false), (3, false), (4, true), (5, true), (6, true), (7, false)] 8 (fun wz => Blk wz W.heap.size 122 #[.slice na0 (j + 1) nc0, .slice na1 (j + 1) nc1, .slice xa j xc] ∧ Blk wz w2.heap.size 146 #[.slice aa n ac, .slice ba n bc, .slice ca n cc]) mixesSc (by kernel_rfl) ⟨hq.drew, hrw.drew⟩ ?_
        repeat (refine ord_float rfl rfl (fun K hK => ⟨_, (fun w' hw => by have q0 := hw.1.cell 2; have q1 :=  hw.2.cell 2; go_simp; exact rfl), ?_⟩); go_simp; refine hK _ ?_; clear hK K)
        refine ord_call rfl rfl (fun K hK => ⟨_, _, (by go_simp <;> first | exact rfl | exact ⟨rfl, rfl⟩), ?_⟩)
        refine (HCT.out j 2 _ _ HCO2.out).mono ?_
        rintro e u2 ⟨p2, rfl, hp, hbu⟩
        have hqu : Blk u2 W.heap.size 122 #[.slice na0 (j + 1) nc0, .slice na1 (j + 1) nc1, .slice xa j xc] ∧ Blk u2 w2.heap.size 146 #[.slice aa n ac, .slice ba n bc, .slice ca n cc] := ⟨hq.drew.on hbu hq.lt, hrw.drew.on hbu hrw.lt⟩
        have HBB : Below Y2.heap.size Y2 u2 := (Below.refl _ _).drew.trans hbu
        refine ⟨_, rfl, hqu, ?_⟩
        go_simp
        refine hK _ _ ?_
        clear hK K
        repeat (refine ord_float rfl rfl (fun K hK => ⟨_, (fun w' hw => by have q0 := hw.1.cell 2; have q1 :=  hw.2.cell 2; go_simp; exact rfl), ?_⟩); go_simp; refine hK _ ?_; clear hK K)
        obtain ⟨pa2, pc2, hpv⟩ := row_form hp.1
        subst hpv
        generalize hgl : (pThr (colL ls n 2 j)).length = pl2 at hp ⊢
        have hsu : Y2.heap.size ≤ u2.heap.size := HBB.size
        have hqa : Blk (u2.alloc (.cells #[.slice pa2 pl2 pc2] 27)) W.heap.size 122 #[.slice na0 (j + 1) nc0, .slice na1 (j + 1) nc1, .slice xa j xc] ∧ Blk (u2.alloc (.cells #[.slice pa2 pl2 pc2] 27)) w2.heap.size 146 #[.slice aa n ac, .slice ba n bc, .slice ca n cc] := ⟨hqu.1.alloc _, hqu.2.alloc _⟩
        refine ord_op rfl rfl (fun K hK => ⟨.slice (some ⟨u2.heap.size, 0, none⟩) 1 1, (u2.alloc (.cells #[.slice pa2 pl2 pc2] 27)), (by go_simp <;> rfl), hqa, ?_⟩)
        go_simp
        refine hK _ _ ?_
        clear hK K
        have hsa : (u2.alloc (.cells #[.slice pa2 pl2 pc2] 27)).heap.size = u2.heap.size + 1 := by simp
        have HTu : Hid (Tri 27 w1.heap.size Y2.heap.size (u2.alloc (.cells #[.slice pa2 pl2 pc2] 27)) (.slice xa j xc) j xs (qapN ls n 2 j) (.slice na0 (j + 1) nc0) (j + 1) (us ++ [.slice pa0 pl0 pc0]) (qapN ls n 0 (j + 1)) (.slice na1 (j + 1) nc1) (j + 1) (vs ++ [.slice pa1 pl1 pc1]) (qapN ls n 1 (j + 1))) := (HT2.out.same (Same.of_below HBB (Nat.le_refl _))).same (fun k h1 h2 => Below.heap_alloc u2 _ k (by omega))
        have HPa : Hid (ZOwn Y2.heap.size (u2.alloc (.cells #[.slice pa2 pl2 pc2] 27)).heap.size (u2.alloc (.cells #[.slice pa2 pl2 pc2] 27)) (.slice pa2 pl2 pc2) (pThr (colL ls n 2 j))) := (hp.same (fun k h1 h2 => Below.heap_alloc u2 _ k h2)).wide (Nat.le_refl _) (by omega)
        have hrow := HTu.out.u.row
        refine ord_append rfl rfl _ _ 120 rfl w1.heap.size 27 k0 (.slice none 0 0) 1 24 Tryz.underlying120 hk hy0 hy1 hy2 rfl (by decide) _ _ _ rfl hrow ⟨u2.heap.size, 0, none⟩ 1 1 [.slice pa2 pl2 pc2] rfl rfl (cell_one_new _ _ _) (fun u hu => by rw [List.mem_singleton] at hu; subst hu; rfl) hm63 hm47 (by simp; omega) ?_
        intro N2 y2 hrn hgn hat
        have HTn := HTu.out.app hrn hgn hat HPa.out (by omega) (by omega)
        have HAg : Kps (fun k => (Value.slice xa j xc).ownBlock = some k) Y2 y2 := ((Kps.of_below HBB).trans (Kps.of_below ((Below.refl _ _).alloc (Nat.le_refl _) _))).trans (kps_grown hgn)
        have hqy : Blk y2 W.heap.size 122 #[.slice na0 (j + 1) nc0, .slice na1 (j + 1) nc1, .slice xa j xc] ∧ Blk y2 w2.heap.size 146 #[.slice aa n ac, .slice ba n bc, .slice ca n cc] := ⟨HAg.blk hq (fun e => by have := HO2.out _ e; omega), HAg.blk hrw (fun e => by have := HO2.out _ e; omega)⟩
        refine ⟨hqy, fun K hK => ?_⟩
        go_simp
        refine hK _ ?_
        clear hK K
        repeat (refine ord_float rfl rfl (fun K hK => ⟨_, (fun w' hw => by have q0 := hw.1.cell 2; have q1 :=  hw.2.cell 2; go_simp; exact rfl), ?_⟩); go_simp; refine hK _ ?_; clear hK K)
        refine ord_nil ?_
        obtain ⟨na2, nc2, hNv⟩ := row_form hrn
        subst hNv
        have hcy := hqy.1.cell 2
        have hfy := hqy.1.free 2
        refine last_store rfl rfl rfl (y2.setCell ⟨W.heap.size, 2, none⟩ (.slice na2 (j + 1) nc2)) (by go_simp <;> rfl) ?_
        have hsz : (y2.setCell ⟨W.heap.size, 2, none⟩ (.slice na2 (j + 1) nc2)).heap.size = y2.heap.size := by simp [World.setCell]
        have HK3 : Hid (Kps (fun k => (w1.heap.size ≤ k ∧ k < wr.heap.size) ∨ k = W.heap.size) Y0 (y2.setCell ⟨W.heap.size, 2, none⟩ (.slice na2 (j + 1) nc2))) := (HK2.out.trans (HAg.more (fun k e => by have := HO2.out _ e; omega))).setCell (.inr rfl) _
        have HB3 : Hid (Below w.heap.size w (y2.setCell ⟨W.heap.size, 2, none⟩ (.slice na2 (j + 1) nc2)) ∧ Blk (y2.setCell ⟨W.heap.size, 2, none⟩ (.slice na2 (j + 1) nc2)) W.heap.size 122 #[.slice na0 (j + 1) nc0, .slice na1 (j + 1) nc1, .slice na2 (j + 1) nc2]) := ⟨(HAg.bel HB2.out.1 (by omega) (fun k e => by have := HO2.out _ e; omega)).setCell (by show w.heap.size ≤ W.heap.size; omega) _, hqy.1.set 2 _⟩
        have HT3 : Hid (Tri 27 w1.heap.size (y2.setCell ⟨W.heap.size, 2, none⟩ (.slice na2 (j + 1) nc2)).heap.size (y2.setCell ⟨W.heap.size, 2, none⟩ (.slice na2 (j + 1) nc2)) (.slice na0 (j + 1) nc0) (j + 1) (us ++ [.slice pa0 pl0 pc0]) (qapN ls n 0 (j + 1)) (.slice na1 (j + 1) nc1) (j + 1) (vs ++ [.slice pa1 pl1 pc1]) (qapN ls n 1 (j + 1)) (.slice na2 (j + 1) nc2) (j + 1) (xs ++ [.slice pa2 pl2 pc2]) (qapN ls n 2 (j + 1))) := by
          rw [hsz]
          exact (HTn.same (Same.set _ _ _ (.inl (by show W.heap.size < w1.heap.size; omega)))).rot
        have hy03 : Y0.heap.size ≤ (y2.setCell ⟨W.heap.size, 2, none⟩ (.slice na2 (j + 1) nc2)).heap.size := HK3.out.size
        generalize (y2.setCell ⟨W.heap.size, 2, none⟩ (.slice na2 (j + 1) nc2)) = Y3 at HK3 HB3 HT3 hy03 ⊢
        clear hsz hcy hfy hqy HAg HTn hrn hgn hat hrow HPa HTu hsa hqa hsu hgl hp hbu hqu HBB hq hrw HCO2 HT2 HB2 HK2 hy02
        have HF : Hid (Below w.heap.size w Y3 ∧ Blk Y3 w.heap.size 26 #[.int .i64 (wn : Int), .int .i64 pu, .slice a n c] ∧ Blk Y3 (w.heap.size + 1) 122 #[.slice none 0 0, .slice none 0 0, .slice none 0 0] ∧ Blk Y3 W.heap.size 122 #[.slice na0 (j + 1) nc0, .slice na1 (j + 1) nc1, .slice na2 (j + 1) nc2]) := ⟨HB3.out.1, HK3.out.blk HQ.out.1 (by omega), HK3.out.blk HQ.out.2.1 (by omega), HB3.out.2⟩
        have hs3 : w1.heap.size ≤ Y3.heap.size := by omega
        clear HK3 HB3 HQ HR HCT HCC
        go_wp2
        go_roundw
        case rel => exact ⟨j + 1, _, _, _, _, _, _, by go_num, hlt, HF, HT3, hs3⟩
        case measure => simp [intOf]; omega
      · have hlt' : ¬ (j : Int) < (wn : Int) := by omega
        obtain rfl : wn = j := by omega
        have hsys := HB.out.2.2.2
        have hres := HB.out.2.2.1
        have HBB : Hid (Below w.heap.size w wr) := HB.out.1
        have hws := HB.out.1.size
        clear HB HCT HCC
        go_wp2_with (first | (refine load_blk rfl rfl rfl hsys Tryz.underlying122 infoQa ?_) | (refine store_blkS (cs' := #[.slice ua wn uc, .slice va wn vc, .slice xa wn xc]) rfl rfl rfl rfl rfl hres infoQa rfl (onesQa _ _ _ _ _ _ _ _ _) ?_; intro V8 h8 hheap hoth hbel; have hb8 := hbel _ _ (by omega) HBB.out; have hb9 := hbel 0 wr (Nat.zero_le _) (Below.refl _ _); clear hoth hbel))
        have hs8 : wr.heap.size ≤ V8.heap.size := hb9.size
        have hTT := ((HT.out.same (w' := V8) (fun k h1 h2 => hheap k (by omega))).wide hs8).low (lo' := w.heap.size) (by omega)
        refine bodyPost_ret_by (result_Btmp rfl rfl rfl h8 Tryz.underlying122 infoQa) rfl (.inr ⟨HOK.out, _, _, _, us, vs, xs, rfl, ?_, hb8⟩)
        rw [Int.toNat_natCast]
        exact hTT

end Go.Proofs.YthnahalboomkoaaGreat

/-
  The walks of the program's division.
  (-DROP-: what the seat lacks is left out.)
-/
namespace Go.Proofs.YthnahalboomkoaaGreat
open Go.RowKit

theorem rep_set (i : Nat) (x : Int) (t : List Int) : (List.replicate (i + 1) 0 ++ t).set i x = List.replicate i 0 ++ (x :: t) := by
  rw [List.replicate_succ', List.append_assoc, List.set_append_right _ _ (by simp)]
  simp
theorem rep_get (i : Nat) (x : Int) (t : List Int) : (List.replicate i 0 ++ (x :: t)).getD i 0 = x := by
  rw [shift_getD, if_pos (Nat.le_refl _), Nat.sub_self]
  rfl

set_option maxHeartbeats 3200000 in
set_option maxRecDepth 100000 in
theorem dip_any (v u : Value) (p d : List Int) (B B2 g : Nat) (w : World) (hp : RowZs B w v p) (hd : RowZs B2 w u d) (hg : v.ownBlock = some g) (hne : u.ownBlock ≠ some g) (h0 : 0 < d.length) (h1 : d.length ≤ p.length) (h2 : p.length ≤ 64) :
    Calls Tryz.prog 209 #[v, u] w fun e w' => ∃ q r, e = .returned (.tuple #[q, r]) ∧ RowZs w.heap.size w' q (dv d (d.length - 1) (dvC d) (dvN p d) p).1 ∧ RowZs B w' r (trimZ (dv d (d.length - 1) (dvC d) (dvN p d) p).2) ∧ q.ownBlock = some w.heap.size ∧ (∀ k, r.ownBlock = some k → k = g) ∧ Kps (fun x => x = g) w w' := by
  obtain ⟨ra, rc, hv⟩ := row_form hp
  subst hv
  obtain ⟨da, dc, hv⟩ := row_form hd
  subst hv
  have hgs : g < w.heap.size := (hp.lt g hg).2
  have HD : Hid (RowZs B2 w (.slice da d.length dc) d) := hd
  have HNE : Hid ((Value.slice da d.length dc).ownBlock ≠ some g) := hne
  have HP : Hid (RowZs B w (.slice ra p.length rc) p) := hp
  have hra : ra = some ⟨g, 0, none⟩ := by
    rcases hp.2 with ⟨_, hz⟩ | ⟨g', c', cur, hve, _⟩
    · omega
    · injection hve with e1
      subst e1
      injection hg with e2
      subst e2
      rfl
  subst hra
  obtain ⟨gd, c', hve, hd1, hd2, hzd, _⟩ := hd.cellZ (j := d.length - 1) (by omega)
  have hda : da = some ⟨gd, 0, none⟩ := by injection hve
  subst hda
  clear hve hd1 hd2
  have HC : Hid (dvC d = scInv (d.getD (d.length - 1) 0)) := rfl
  have CI : Hid (∀ w, Calls Tryz.prog 96 #[.int .i64 (d.getD (d.length - 1) 0)] w fun e w' => e = .returned (.int .i64 (dvC d)) ∧ w = w') := fun w => iScInv_any _ w
  generalize hcc : dvC d = c at CI HC ⊢
  obtain ⟨t, ht⟩ : ∃ t, d.length = t + 1 := ⟨d.length - 1, by omega⟩
  obtain ⟨n, hn⟩ : ∃ n, dvN p d = n + 1 := ⟨p.length - d.length, by unfold dvN; omega⟩
  have hpn : p.length = n + 1 + t := by unfold dvN at hn; omega
  have ht1 : d.length - 1 = t := by omega
  rw [hn, ht1]
  rw [ht1] at CI hzd
  rw [ht] at HD HNE ⊢
  have HPL : Hid (p.length = n + 1 + t) := hpn
  rw [hpn] at HP ⊢
  generalize hzz : d.getD t 0 = z at CI hzd
  have HDL : Hid (d.length = t + 1) := ht
  have hb1 : n + 1 + t ≤ 64 := by omega
  clear hp hd hg hne h0 h1 h2 hcc hn hpn ht1 ht hzz HC
  have hmk : ∀ W : World, (Instr.makeSlice 27 (.int .i64 ((n : Int) + 1)) (.int .i64 ((n : Int) + 1))).run Tryz.prog W = .ok (.slice (some ⟨W.heap.size, 0, none⟩) (n + 1) (n + 1)) (W.alloc (.cells (ic (fun _ => 0) (n + 1)) 3)) := fun W => by
    have := make_ints (n + 1) (n + 1) (Nat.le_refl _) (by omega) W
    rwa [show ((n + 1 : Nat) : Int) = (n : Int) + 1 by omega] at this
  have HQ0 : Hid (RowZs w.heap.size (w.alloc (.cells (ic (fun _ => 0) (n + 1)) 3)) (.slice (some ⟨w.heap.size, 0, none⟩) (n + 1) (n + 1)) (List.replicate (n + 1) 0)) := rowZ_zero w (n + 1) (by omega)
  generalize ic (fun _ => 0) (n + 1) = M at hmk HQ0
  have hi1 : ((t + 1 : Nat) : Int) - 1 = (t : Int) := by omega
  have hi2 : ((n + 1 + t : Nat) : Int) - (t : Int) = (n : Int) + 1 := by omega
  have hi3 : ((n + 1 : Nat) : Int) - 1 = (n : Int) := by omega
  have hi4 : (0 : Int) ≤ (t : Int) := by omega
  have hi5 : (t : Int) < ((t + 1 : Nat) : Int) := by omega
  generalize hfin : dv d t c (n + 1) p = fin at *
  go_enter Tryz.func209, Tryz.ntmps209
  go_wp2_with (go_at_call 96; refine (CI.out _).mono ?_; rintro e wz ⟨rfl, rfl⟩)
  go_loopw [9] (fun i wr => ∃ (k : Nat) (pc tl : List Int), i = .int .i64 ((k : Int) - 1) ∧ k ≤ n + 1 ∧ Hid (pc.length = n + 1 + t) ∧ Hid ((dv d t c k pc).1 ++ tl = fin.1 ∧ (dv d t c k pc).2 = fin.2) ∧ Hid (RowZs w.heap.size wr (.slice (some ⟨w.heap.size, 0, none⟩) (n + 1) (n + 1)) (List.replicate k 0 ++ tl)) ∧ Hid (RowZs B wr (.slice (some ⟨g, 0, none⟩) (n + 1 + t) rc) pc) ∧ Hid (Kps (fun x => x = g ∨ x = w.heap.size) w wr)) (fun i _ => (intOf i + 1).toNat)
  case atStart => exact ⟨n + 1, p, [], congrArg (Value.int .i64) (by omega), Nat.le_refl _, HPL, ⟨by rw [List.append_nil, hfin], by rw [hfin]⟩, by rw [List.append_nil]; exact HQ0, (Kps.of_below (S := fun _ => False) ((Below.refl _ _).alloc (Nat.le_refl _) _)).row HP.out (fun _ _ h => h), Kps.of_below ((Below.refl _ _).alloc (Nat.le_refl _) _)⟩
  case round =>
    obtain ⟨k, pc, tl, rfl, hk, HL, HF, HQ, HR, HK⟩ := hrel
    clear HQ0 hmk hzd HP CI hi1 hi2 hi3
    by_cases hk0 : 0 < k
    · obtain ⟨j, rfl⟩ : ∃ j, k = j + 1 := ⟨k - 1, by omega⟩
      have hji : ((j + 1 : Nat) : Int) - 1 = (j : Int) := by omega
      have hj0 : (0 : Int) ≤ (j : Int) := by omega
      have hjn : (j : Int) < ((n + 1 : Nat) : Int) := by omega
      obtain ⟨m, hm⟩ : ∃ m, m = j + t := ⟨_, rfl⟩
      have hjm : (j : Int) + (t : Int) = (m : Int) := by omega
      have hm0 : (0 : Int) ≤ (m : Int) := by omega
      have hmn : (m : Int) < ((n + 1 + t : Nat) : Int) := by omega
      have hwm : IntKind.i64.wrap (m : Int) = (m : Int) := IntWalk.i64_in _ (by omega)
      obtain ⟨g', c', hve, _, _, hz, hzf⟩ := HR.out.cellZ (j := m) (by rw [HL.out]; omega)
      have hgg : g' = g := by injection hve with e1; injection e1 with e1; injection e1 with e1; exact e1.symm
      subst hgg
      have hlq : (List.replicate (j + 1) 0 ++ tl).length = n + 1 := by have := HQ.out.len; omega
      obtain ⟨gq, cq', hveq, _, _, hzq, hzqf⟩ := HQ.out.cellZ (j := j) (by rw [hlq]; omega)
      have hgq : gq = w.heap.size := by injection hveq with e1; injection e1 with e1; injection e1 with e1; exact e1.symm
      subst hgq
      have HKK : Hid (dvK t c pc j = scMul (pc.getD m 0) c) := by rw [hm]; rfl
      have CM : Hid (∀ w, Calls Tryz.prog 56 #[.int .i64 (pc.getD m 0), .int .i64 c] w fun e w' => e = .returned (.int .i64 (dvK t c pc j)) ∧ w = w') := fun w => by rw [HKK.out]; exact iScMul_any _ _ w
      have CN : Hid (∀ w, Calls Tryz.prog 204 #[.int .i64 (dvK t c pc j)] w fun e w' => e = .returned (.int .i64 (scNeg (dvK t c pc j))) ∧ w = w') := fun w => iScNeg_any _ w
      have HF2 : Hid ((dv d t c j (addSh pc j (scNeg (dvK t c pc j)) d)).1 ++ (dvK t c pc j :: tl) = fin.1 ∧ (dv d t c j (addSh pc j (scNeg (dvK t c pc j)) d)).2 = fin.2) := ⟨by rw [← HF.out.1, dv, List.append_assoc]; rfl, by rw [← HF.out.2, dv]⟩
      have HQ2 : Hid (RowZs w.heap.size (wr.setCell ⟨w.heap.size, j, none⟩ (.int .i64 (dvK t c pc j))) (.slice (some ⟨w.heap.size, 0, none⟩) (n + 1) (n + 1)) (List.replicate j 0 ++ (dvK t c pc j :: tl))) := by
        have := HQ.out.put j (dvK t c pc j)
        rwa [rep_set] at this
      have HK2 : Hid (Kps (fun x => x = g' ∨ x = w.heap.size) w (wr.setCell ⟨w.heap.size, j, none⟩ (.int .i64 (dvK t c pc j)))) := HK.out.setCell (p := ⟨w.heap.size, j, none⟩) (Or.inr rfl) _
      have HR2 : Hid (RowZs B (wr.setCell ⟨w.heap.size, j, none⟩ (.int .i64 (dvK t c pc j))) (.slice (some ⟨g', 0, none⟩) (n + 1 + t) rc) pc) := ((Kps.refl (fun x => x = w.heap.size) wr).setCell (p := ⟨w.heap.size, j, none⟩) rfl _).row HR.out (fun k hk e => by have e1 : g' = k := Option.some.inj hk; omega)
      have HD2 : Hid (RowZs B2 (wr.setCell ⟨w.heap.size, j, none⟩ (.int .i64 (dvK t c pc j))) (.slice (some ⟨gd, 0, none⟩) (t + 1) dc) d) := HK2.out.row HD.out (fun k hk e => by
        rcases e with e | e
        · exact HNE.out (e ▸ hk)
        · have := (HD.out.lt k hk).2; omega)
      have CS : Hid (∀ V : World, RowZs B V (.slice (some ⟨g', 0, none⟩) (n + 1 + t) rc) pc → RowZs B2 V (.slice (some ⟨gd, 0, none⟩) (t + 1) dc) d → Calls Tryz.prog 206 #[.slice (some ⟨g', 0, none⟩) (n + 1 + t) rc, .int .i64 (j : Int), .int .i64 (scNeg (dvK t c pc j)), .slice (some ⟨gd, 0, none⟩) (t + 1) dc] V fun e w' => e = .returned (.tuple #[]) ∧ RowZs B w' (.slice (some ⟨g', 0, none⟩) (n + 1 + t) rc) (addSh pc j (scNeg (dvK t c pc j)) d) ∧ Kps (fun x => x = g') V w') := fun V h1 h2 => by
        refine iSh_any _ _ pc d j _ B g' V h1 (fun _ => rfl) (ZFar.of_row h2 HNE.out) ?_ ?_
        · rw [HL.out, HDL.out]; omega
        · rw [HL.out]; omega
      have HL2 : Hid ((addSh pc j (scNeg (dvK t c pc j)) d).length = n + 1 + t) := by show _ = _; rw [addSh_len, HL.out]
      have HGQ : Hid (∀ V : World, RowZs w.heap.size V (.slice (some ⟨w.heap.size, 0, none⟩) (n + 1) (n + 1)) (List.replicate j 0 ++ (dvK t c pc j :: tl)) → V.cell? ⟨w.heap.size, j, none⟩ = some (.int .i64 (dvK t c pc j))) := fun V hV => by
        obtain ⟨gq, cq', hveq, _, _, hzq, _⟩ := hV.cellZ (j := j) (by have := hV.len; omega)
        have hgq : gq = w.heap.size := by injection hveq with e1; injection e1 with e1; injection e1 with e1; exact e1.symm
        subst hgq
        rwa [rep_get] at hzq
      clear hve hveq HKK HF HQ HR HK hlq hm hzf
      generalize addSh pc j (scNeg (dvK t c pc j)) d = pc2 at CS HF2 HL2
      generalize scNeg (dvK t c pc j) = N at CN CS
      generalize dvK t c pc j = K at CM CN HF2 HQ2 HK2 HR2 HGQ HD2
      have hq2 := HGQ.out _ HQ2.out
      generalize (List.replicate (j + 1) 0 ++ tl).getD j 0 = old at hzq
      generalize pc.getD m 0 = x at hz CM
      go_wp2_with fail
      go_at_call 56
      refine (CM.out _).mono ?_
      rintro e wz ⟨rfl, rfl⟩
      go_wp2_with fail
      go_at_call 204
      refine (CN.out _).mono ?_
      rintro e wz ⟨rfl, rfl⟩
      go_wp2_with fail
      go_at_call 206
      refine (CS.out _ HR2.out HD2.out).mono ?_
      rintro e w2 ⟨rfl, hr2, hk2⟩
      have HR3 : Hid (RowZs B w2 (.slice (some ⟨g', 0, none⟩) (n + 1 + t) rc) pc2) := hr2
      have HQ3 : Hid (RowZs w.heap.size w2 (.slice (some ⟨w.heap.size, 0, none⟩) (n + 1) (n + 1)) (List.replicate j 0 ++ (K :: tl))) := hk2.row HQ2.out (fun k hk e => by have e1 : w.heap.size = k := Option.some.inj hk; omega)
      have HK3 : Hid (Kps (fun x => x = g' ∨ x = w.heap.size) w w2) := HK2.out.trans (hk2.more fun _ h => Or.inl h)
      clear hr2 hk2 HQ2 HK2 HR2 HGQ HD2 hq2 CS CN CM
      go_wp2
      go_roundw
      case rel => exact ⟨j, pc2, K :: tl, by go_num, by omega, HL2, HF2, HQ3, HR3, HK3⟩
      case measure => simp [intOf]
    · obtain rfl : k = 0 := by omega
      have CT : Hid (Calls Tryz.prog 207 #[.slice (some ⟨g, 0, none⟩) (n + 1 + t) rc] wr fun e w' => ∃ x, e = .returned x ∧ RowZs B wr x (trimZ fin.2) ∧ (∀ k, x.ownBlock = some k → k = g) ∧ wr = w') := by
        refine (trimmed_any _ pc (by rw [HL.out]; omega) B wr HR.out).mono ?_
        rintro e w' ⟨a, n, c', h1, h2, h3, h4⟩
        rw [← HF.out.2]
        injection h1 with e1
        subst e1
        exact ⟨_, h2, h3, fun k hk => (Option.some.inj hk).symm, h4⟩
      have HQ2 : Hid (RowZs w.heap.size wr (.slice (some ⟨w.heap.size, 0, none⟩) (n + 1) (n + 1)) fin.1) := by
        have h1 := HF.out.1
        show RowZs _ _ _ _
        rw [← h1]
        exact HQ.out
      have HK2 : Hid (Kps (fun x => x = g) w wr) := ⟨HK.out.os, HK.out.tape, HK.out.output, HK.out.size, fun k hk hs => HK.out.block k hk (by omega)⟩
      clear HF HQ HR HK
      go_wp2_with (go_at_call 207; refine CT.out.mono ?_; rintro e w3 ⟨x, rfl, hx, hxo, rfl⟩)
      go_ret2
      exact ⟨_, _, rfl, HQ2.out, hx, rfl, hxo, HK2.out⟩

end Go.Proofs.YthnahalboomkoaaGreat

/-
  The walk of the program's division, whole.
  (-DROP-: what the seat lacks is left out.)
-/
namespace Go.Proofs.YthnahalboomkoaaGreat
open Go.RowKit

theorem lit0 (w : World) : RowZs w.heap.size (w.alloc (.cells #[] 3)) (.slice (some ⟨w.heap.size, 0, none⟩) 0 0) [] := own_lit w [] (by simp)
theorem lit0n (w : World) (g : Nat) (hg : g = w.heap.size) : RowZs g (w.alloc (.cells #[] 3)) (.slice (some ⟨g, 0, none⟩) 0 0) [] := by
  subst hg
  exact lit0 w

set_option maxHeartbeats 3200000 in
set_option maxRecDepth 100000 in
theorem iDiv_any (v u : Value) (l m : List Int) (hl : l.length ≤ 1048576) (hm : m.length ≤ 1048576) (w : World) (h : ZAt w w.heap.size v l) (h2 : ZAt w w.heap.size u m) : Calls Tryz.prog 184 #[v, u] w fun e w' => ∃ q r, e = .returned (.tuple #[q, r]) ∧ ZOwn w.heap.size w'.heap.size w' q (pQuo l m) ∧ ZOwn w.heap.size w'.heap.size w' r (pRem l m) ∧ (∀ g, q.ownBlock = some g → r.ownBlock ≠ some g) ∧ Below w.heap.size w w' := by
  have HA : Hid (ZAt w w.heap.size v l) := h
  have HB : Hid (ZAt w w.heap.size u m) := h2
  obtain ⟨a, cp, rfl, hA⟩ := h
  obtain ⟨b, cq, rfl, hB⟩ := h2
  clear hA hB
  by_cases hbig : 64 < l.length ∨ 64 < m.length
  · have HE : Hid (pQuo l m = []) := by show _ = _; unfold pQuo; rw [if_pos (by omega)]
    have HE2 : Hid (pRem l m = []) := by show _ = _; unfold pRem; rw [if_pos hbig]
    have HF : Hid (ZOwn w.heap.size ((w.alloc (.cells #[] 3)).alloc (.cells #[] 3)).heap.size ((w.alloc (.cells #[] 3)).alloc (.cells #[] 3)) (.slice (some ⟨w.heap.size, 0, none⟩) 0 0) [] ∧ ZOwn w.heap.size ((w.alloc (.cells #[] 3)).alloc (.cells #[] 3)).heap.size ((w.alloc (.cells #[] 3)).alloc (.cells #[] 3)) (.slice (some ⟨w.heap.size + 1, 0, none⟩) 0 0) [] ∧ Below w.heap.size w ((w.alloc (.cells #[] 3)).alloc (.cells #[] 3))) := by
      refine ⟨ZOwn.of (World.ownsRow.alloc (lit0 w) _), (ZOwn.of (lit0n (w.alloc (.cells #[] 3)) (w.heap.size + 1) (by simp))).wide (by omega) (Nat.le_refl _), ((Below.refl _ _).alloc (Nat.le_refl _) _).alloc (by simp) _⟩
    generalize hla : l.length = la at *
    generalize hlb : m.length = lb at *
    clear hla hlb HA HB
    by_cases h1 : 64 < la
    · have h1' : (la : Int) > 64 := by omega
      clear hbig
      go_enter Tryz.func184, Tryz.ntmps184
      go_wp2
      go_ret2
      exact ⟨_, _, rfl, by rw [HE.out]; exact HF.out.1, by rw [HE2.out]; exact HF.out.2.1, fun g h1 h2 => by have e1 : w.heap.size = g := Option.some.inj h1; have e2 : w.heap.size + 1 = g := Option.some.inj h2; omega, HF.out.2.2⟩
    · have h1' : ¬ (la : Int) > 64 := by omega
      have h2' : (lb : Int) > 64 := by omega
      clear hbig
      go_enter Tryz.func184, Tryz.ntmps184
      go_wp2
      go_ret2
      exact ⟨_, _, rfl, by rw [HE.out]; exact HF.out.1, by rw [HE2.out]; exact HF.out.2.1, fun g h1 h2 => by have e1 : w.heap.size = g := Option.some.inj h1; have e2 : w.heap.size + 1 = g := Option.some.inj h2; omega, HF.out.2.2⟩
  · have C1 : Hid (∀ W : World, W = w → Calls Tryz.prog 208 #[.slice a l.length cp] W fun e w' => ∃ u, e = .returned u ∧ ZOwn W.heap.size w'.heap.size w' u (pTrim l) ∧ Below W.heap.size W w') := fun W e => by subst e; exact iTrim_any _ l hl _ HA.out
    have C2 : Hid (∀ W : World, Below w.heap.size w W → Calls Tryz.prog 208 #[.slice b m.length cq] W fun e w' => ∃ u, e = .returned u ∧ ZOwn W.heap.size w'.heap.size w' u (pTrim m) ∧ Below W.heap.size W w') := fun W hW => iTrim_any _ m hm _ ((HB.out.on hW).wide hW.size)
    have hl64 : ¬ (l.length : Int) > 64 := by omega
    have hm64 : ¬ (m.length : Int) > 64 := by omega
    have hpl := pTrim_len l
    have hpm := pTrim_len m
    have hll : l.length ≤ 64 ∧ m.length ≤ 64 := by omega
    have HE : Hid (¬ (64 < l.length ∨ 64 < m.length)) := hbig
    clear hbig
    generalize hla : l.length = la at C1 hl64 hpl hll ⊢
    generalize hlb : m.length = lb at C2 hm64 hpm hll ⊢
    clear hla hlb HA HB hl hm
    go_enter Tryz.func184, Tryz.ntmps184
    go_wp2_with fail
    go_at_call 208
    refine (C1.out _ rfl).mono ?_
    rintro e w1 ⟨v1, rfl, hv1, hb1⟩
    have HV1 : Hid (ZOwn w.heap.size w1.heap.size w1 v1 (pTrim l)) := hv1
    have HB1 : Hid (Below w.heap.size w w1) := hb1
    clear hv1 hb1
    go_wp2_with fail
    go_at_call 208
    refine (C2.out _ HB1.out).mono ?_
    rintro e w2 ⟨v2, rfl, hv2, hb2⟩
    have HV2 : Hid (ZOwn w1.heap.size w2.heap.size w2 v2 (pTrim m)) := hv2
    have HB2 : Hid (Below w1.heap.size w1 w2) := hb2
    clear hv2 hb2
    have HW : Hid (ZOwn w.heap.size w1.heap.size w2 v1 (pTrim l)) := HV1.out.on HB2.out (Nat.le_refl _)
    obtain ⟨a1, c1, hv⟩ := row_form HV1.out.1
    subst hv
    obtain ⟨a2, c2, hv⟩ := row_form HV2.out.1
    subst hv
    by_cases hs : (pTrim m).length = 0 ∨ (pTrim l).length < (pTrim m).length
    · have HQ : Hid (pQuo l m = []) := by show _ = _; unfold pQuo; rw [if_pos (Or.inr (Or.inr hs))]
      have HR : Hid (pRem l m = pTrim l) := by show _ = _; unfold pRem; rw [if_neg HE.out, if_pos hs]
      have HN : Hid (ZOwn w.heap.size (w2.alloc (.cells #[] 3)).heap.size (w2.alloc (.cells #[] 3)) (.slice (some ⟨w2.heap.size, 0, none⟩) 0 0) [] ∧ ZOwn w.heap.size (w2.alloc (.cells #[] 3)).heap.size (w2.alloc (.cells #[] 3)) (.slice a1 (pTrim l).length c1) (pTrim l) ∧ (∀ g, (Value.slice (some ⟨w2.heap.size, 0, none⟩) 0 0).ownBlock = some g → (Value.slice a1 (pTrim l).length c1).ownBlock ≠ some g) ∧ Below w.heap.size w (w2.alloc (.cells #[] 3))) := by
        have s1 := HB1.out.size
        have s2 := HB2.out.size
        have hbb : Below w2.heap.size w2 (w2.alloc (.cells #[] 3)) := (Below.refl _ _).alloc (Nat.le_refl _) _
        refine ⟨(ZOwn.of (lit0 w2)).wide (by omega) (Nat.le_refl _), (HW.out.on hbb s2).wide (Nat.le_refl _) (by simp; omega), fun g hq hr => ?_, (HB1.out.trans (HB2.out.mono s1)).trans (hbb.mono (by omega))⟩
        have e1 : w2.heap.size = g := Option.some.inj hq
        have := HV1.out.2 g hr
        omega
      by_cases hz : (pTrim m).length = 0
      · generalize (pTrim l).length = n1 at *
        rw [hz] at *
        clear hs
        go_wp2
        go_ret2
        exact ⟨_, _, rfl, by rw [HQ.out]; exact HN.out.1, by rw [HR.out]; exact HN.out.2.1, HN.out.2.2.1, HN.out.2.2.2⟩
      · have hz' : (((pTrim m).length : Int) == 0) = false := by rw [beq_eq_false_iff_ne]; omega
        have hz2 : ((pTrim m).length : Int) > ((pTrim l).length : Int) := by omega
        generalize (pTrim l).length = n1 at *
        generalize (pTrim m).length = n2 at *
        clear hs hz
        go_wp2
        go_ret2
        exact ⟨_, _, rfl, by rw [HQ.out]; exact HN.out.1, by rw [HR.out]; exact HN.out.2.1, HN.out.2.2.1, HN.out.2.2.2⟩
    · have HQ : Hid (pQuo l m = (dv (pTrim m) ((pTrim m).length - 1) (dvC (pTrim m)) (dvN (pTrim l) (pTrim m)) (pTrim l)).1) := by show _ = _; unfold pQuo; rw [if_neg (by have := HE.out; omega)]
      have HR : Hid (pRem l m = trimZ (dv (pTrim m) ((pTrim m).length - 1) (dvC (pTrim m)) (dvN (pTrim l) (pTrim m)) (pTrim l)).2) := by show _ = _; unfold pRem; rw [if_neg HE.out, if_neg hs]
      obtain ⟨g, hg⟩ : ∃ g, (Value.slice a1 (pTrim l).length c1).ownBlock = some g := by
        obtain ⟨g, c', hve, _⟩ := HW.out.1.cellZ (j := 0) (by omega)
        exact ⟨g, by rw [hve]; rfl⟩
      have hg1 : w.heap.size ≤ g ∧ g < w1.heap.size := HW.out.in g hg
      have CD : Hid (Calls Tryz.prog 209 #[.slice a1 (pTrim l).length c1, .slice a2 (pTrim m).length c2] w2 fun e w' => ∃ q r, e = .returned (.tuple #[q, r]) ∧ RowZs w2.heap.size w' q (pQuo l m) ∧ RowZs w.heap.size w' r (pRem l m) ∧ q.ownBlock = some w2.heap.size ∧ (∀ k, r.ownBlock = some k → k = g) ∧ Kps (fun x => x = g) w2 w') := by
        rw [HQ.out, HR.out]
        refine dip_any _ _ (pTrim l) (pTrim m) w.heap.size w1.heap.size g w2 HW.out.1 HV2.out.1 hg (fun e => ?_) (by omega) (by omega) (by omega)
        have := HV2.out.in g e
        omega
      have hz' : (((pTrim m).length : Int) == 0) = false := by rw [beq_eq_false_iff_ne]; omega
      have hz2 : ¬ ((pTrim m).length : Int) > ((pTrim l).length : Int) := by omega
      clear hs
      generalize (pTrim l).length = n1 at *
      generalize (pTrim m).length = n2 at *
      go_wp2_with (go_at_call 209; refine CD.out.mono ?_; rintro e w3 ⟨q, r, rfl, hq, hr, hqo, hro, hk3⟩)
      go_ret2
      have s1 := HB1.out.size
      have s2 := HB2.out.size
      refine ⟨q, r, rfl, (ZOwn.of hq).wide (by omega) (Nat.le_refl _), ZOwn.of hr, fun k h1 h2 => ?_, hk3.bel (HB1.out.trans (HB2.out.mono s1)) (by omega) (fun k hk => by omega)⟩
      rw [hqo] at h1
      have e1 := Option.some.inj h1
      have e2 := hro k h2
      omega

end Go.Proofs.YthnahalboomkoaaGreat

/-
  A store into a struct's block in a region that draws its order: all other blocks are told. Two chains beside one another, with three values at their end.
-/
namespace Go.Proofs.YthnahalboomkoaaGreat
open Go.RowKit

section
variable {P : Program} {ops : Array Oper} {S : World → Prop} {Q : Exit → Act → World → Prop} {R : Act → World → Prop}

theorem ord_storeS {k : Nat} {r : List (Nat × Bool)} {a : Act} {w : World} {o : Oper} (ho : ops[k]? = some o) (hw : Region.wanted o (yielded ops a.tmps) = true) (hd : o.dst = none) {t : TypeId} {p v : Operand} (hop : o.op = Op.store t p v)
    {g : Nat} {t' : TypeId} {cs cs' : Array Value} (hp : a.eval p = .pointer (some ⟨g, 0, none⟩)) (hv : a.eval v = .agg cs') (h : Blk w g t' cs) (hi : (P.info? t).map (·.size) = some cs'.size) (hz : cs.size = cs'.size) (h1 : cs'.all (·.oneCell') = true)
    (K : ∀ w', Blk w' g t' cs' → (∀ k, k ≠ g → w'.heap[k]? = w.heap[k]?) → (∀ g' t'' cs'', g ≠ g' → Blk w g' t'' cs'' → Blk w' g' t'' cs'') → (∀ B w0, B ≤ g → Below B w0 w → Below B w0 w') → S w' ∧ wpOrd P ops Q S R r a w') : wpOrd P ops Q S R ((k, true) :: r) a w := by
  show wpOp P ops (NoPanic Q) k _ a w
  unfold wpOp
  simp only [ho]
  rw [if_pos hw]
  refine .inl ?_
  have hrun : (Instr.storeAt t (.pointer (some ⟨g, 0, none⟩)) (.agg cs')).run P w = .ok () (w.setRow g cs') := by
    simp only [Instr.storeAt, Instr.sureAddr, Sem.run_bind, Sem.run_pure, Result.andThen]
    exact h.store hi hz h1
  unfold Oper.wp
  simp [execOp, hop, hp, hv, hrun, Result.andThen]
  simp only [Oper.upon]
  rw [show a.put o.dst undef = a by rw [hd]; rfl]
  exact K _ (h.row cs') (fun k hk => by simp only [World.setRow]; rw [Array.getElem?_modify, if_neg (fun e => hk e.symm)]) (fun g' t'' cs'' hne h' => h'.rowOther hne _) (fun _ _ hB hb => below_setRow hb hB _)

/-- Two chains, i then i', and j (which is listed ahead of both): in whatever order, to one end. -/
theorem anyH_fork3v {n i i' j : Nat} {L0 : Array Bool} {a : Act} {w : World} {F : Value → Value → Value → Act} (G : Value → Value → Value → World → Prop) (L3 : Array Bool)
    (hB : (Region.noSelect ops && decide (Region.ready .any ops L0 = [j, i]) && decide (Region.ready .any ops (L0.setIfInBounds i true) = [j, i']) && decide (ordTo ops [(j, true)] ((L0.setIfInBounds i true).setIfInBounds i' true) = some L3) && decide (ordTo ops [(i', true)] ((L0.setIfInBounds i true).setIfInBounds j true) = some L3) && decide (ordTo ops [(i, true), (i', true)] (L0.setIfInBounds j true) = some L3)) = true)
    (h1 : wpOrd P ops Q S (fun a' w' => S w' ∧ wpOrd P ops Q S (fun a' w' => ∃ x y z, a' = F x y z ∧ G x y z w') [(i', true), (j, true)] a' w' ∧ wpOrd P ops Q S (fun a' w' => ∃ x y z, a' = F x y z ∧ G x y z w') [(j, true), (i', true)] a' w') [(i, true)] a w)
    (h2 : wpOrd P ops Q S (fun a' w' => ∃ x y z, a' = F x y z ∧ G x y z w') [(j, true), (i, true), (i', true)] a w)
    (hK : ∀ x y z w', G x y z w' → wpAnyH P .any ops (NoPanic Q) S n L3 (F x y z) w') : wpAnyH P .any ops (NoPanic Q) S (n + 3) L0 a w := by
  simp only [Bool.and_eq_true, decide_eq_true_eq] at hB
  obtain ⟨⟨⟨⟨⟨hs, h0⟩, hi⟩, hij⟩, hji⟩, hj⟩ := hB
  have up : ∀ (order : List (Nat × Bool)) (a : Act) (w : World), wpOrd P ops Q S (fun a' w' => ∃ x y z, a' = F x y z ∧ G x y z w') order a w → wpOrd P ops Q S (fun a w => wpAnyH P .any ops (NoPanic Q) S n L3 a w) order a w := by
    intro order
    induction order with
    | nil =>
      rintro a w ⟨x, y, z, rfl, hG⟩
      exact hK x y z w hG
    | cons x r ih =>
      obtain ⟨k, b⟩ := x
      cases b
      · rintro a w ⟨o, v, ho, hy, hr⟩
        exact ⟨o, v, ho, hy, ih _ _ hr⟩
      · intro a w h
        exact wpOp_mono (fun a' w' ⟨h1, h2⟩ => ⟨h1, ih _ _ h2⟩) h
  refine wpAnyH_all h0 (by simp) fun k hk => ?_
  simp only [List.mem_cons, List.not_mem_nil, or_false] at hk
  rcases hk with rfl | rfl
  · exact wpOp_mono (fun a2 w2 ⟨hS2, h⟩ => ⟨hS2, anyH_of_to hs [(_, true), (_, true)] n _ _ a2 w2 hj hS2 (up _ _ _ h)⟩) h2
  · refine wpOp_mono (fun a' w' ⟨hS, _, ha, hb⟩ => ⟨hS, ?_⟩) h1
    refine wpAnyH_all hi (by simp) fun k' hk' => ?_
    simp only [List.mem_cons, List.not_mem_nil, or_false] at hk'
    rcases hk' with rfl | rfl
    · exact wpOp_mono (fun a2 w2 ⟨hS2, h⟩ => ⟨hS2, anyH_of_to hs [(_, true)] n _ _ a2 w2 hji hS2 (up _ _ _ h)⟩) hb
    · exact wpOp_mono (fun a2 w2 ⟨hS2, h⟩ => ⟨hS2, anyH_of_to hs [(_, true)] n _ _ a2 w2 hij hS2 (up _ _ _ h)⟩) ha

end
end Go.Proofs.YthnahalboomkoaaGreat

/-
  The walk of the program's mixture of a system and numbers.
  (-DROP-: what the seat lacks is left out.)
-/
namespace Go.Proofs.YthnahalboomkoaaGreat
open Go.RowKit

theorem infoMx : (Tryz.prog.info? 154).map (·.size) = some 4 := by kernel_rfl
theorem onesMx (a : Option Addr) (n c : Nat) (a1 : Option Addr) (n1 c1 : Nat) (a2 : Option Addr) (n2 c2 : Nat) (a3 : Option Addr) (n3 c3 : Nat) : (#[Value.slice a n c, .slice a1 n1 c1, .slice a2 n2 c2, .slice a3 n3 c3]).all (·.oneCell') = true := by simp [Value.oneCell']
theorem owns_cap {w : World} {B e sz n c : Nat} {a : Option Addr} {xs : List Value} (h : w.ownsRow B e sz (.slice a n c) n xs) : n ≤ c := by
  rcases h.2 with ⟨h0, h1⟩ | ⟨g, c', cur, hv, hg, hh, h1, h2, h3, h4⟩
  · omega
  · injection hv with e1 e2 e3; omega

/-- What the mixture leaves. -/
def MixEnd (w : World) (wi pu : Int) (n : Nat) (ls : List (List Int)) (m : List Int) (e : Ending) (w' : World) : Prop :=
  ((sysOk wi pu n ls && wide m wi) = false ∧ e = .returned (.tuple #[.agg #[.slice none 0 0, .slice none 0 0, .slice none 0 0, .slice none 0 0], .bool false]) ∧ Below w.heap.size w w') ∨
  ((sysOk wi pu n ls && wide m wi) = true ∧ ∃ a0 n0 c0 a1 n1 c1 a2 n2 c2 a3 n3 c3, e = .returned (.tuple #[.agg #[.slice a0 n0 c0, .slice a1 n1 c1, .slice a2 n2 c2, .slice a3 n3 c3], .bool true]) ∧ ZAt w' w'.heap.size (.slice a0 n0 c0) (sideL ls n wi.toNat 0 m) ∧ ZAt w' w'.heap.size (.slice a1 n1 c1) (sideL ls n wi.toNat 1 m) ∧ ZAt w' w'.heap.size (.slice a2 n2 c2) (sideL ls n wi.toNat 2 m) ∧ ZAt w' w'.heap.size (.slice a3 n3 c3) (zerL n) ∧ Below w.heap.size w w')

set_option maxHeartbeats 6400000 in
set_option maxRecDepth 100000 in
theorem iMixture_any (wi pu : Int) (hwf : (Lit.int .i64 wi).wf = true) (a : Option Addr) (n c : Nat) (hn : n ≤ 9223372036854775807) (ls : List (List Int)) (hz : ∀ j, (ls.getD j []).length ≤ 9223372036854775807) (am : Option Addr) (cm : Nat) (m : List Int) (hm : m.length ≤ 1048576) (w : World) (hA : NAt 3 w w.heap.size (.slice a n c) n ls) (hu : ZAt w w.heap.size (.slice am m.length cm) m) :
    Calls Tryz.prog 129 #[.agg #[.int .i64 wi, .int .i64 pu, .slice a n c], .slice am m.length cm] w fun e w' => MixEnd w wi pu n ls m e w' := by
  obtain ⟨W, hW, hb, hs, hr⟩ := boxes1r w 26 154 #[.int .i64 wi, .int .i64 pu, .slice a n c] #[.slice none 0 0, .slice none 0 0, .slice none 0 0, .slice none 0 0]
  have HU : Hid (ZAt w w.heap.size (.slice am m.length cm) m) := hu
  have CQ : Hid (Calls Tryz.prog 123 #[.agg #[.int .i64 wi, .int .i64 pu, .slice a n c]] W fun e w' => QapEnd W wi pu n ls e w') := iQapOf_any wi pu hwf a n c hn ls hz W ((hA.on hb).wide hb.size)
  have CW : Hid (∀ V, Below w.heap.size w V → Calls Tryz.prog 52 #[.slice am m.length cm, .int .i64 wi] V fun e w' => e = .returned (.bool (wide m wi)) ∧ Below V.heap.size V w') := fun V hV => by
    obtain ⟨a', c', hv, hI⟩ := (HU.out.on hV).wide hV.size
    rw [hv]
    exact iWide_any a' c' m wi (by omega) V hI
  have HL : Hid (∀ t wn j, ((qapN ls n t wn).getD j []).length ≤ 1048576) := fun t wn j => by
    by_cases hj : j < wn
    · rw [qapN_at ls n t wn j hj]
      exact pThr_len _
    · rw [List.getD_eq_getElem?_getD, List.getElem?_eq_none (by rw [qapN_len]; omega)]
      exact Nat.zero_le _
  have HOKN : Hid (sysOk wi pu n ls = true → 1 ≤ wi ∧ wi ≤ 20 ∧ 1 ≤ n ∧ n ≤ 16) := fun h => by
    unfold sysOk at h
    simp only [Bool.and_eq_true, decide_eq_true_eq] at h
    obtain ⟨⟨h1, h2⟩, _, ⟨h3, h4⟩, _⟩ := h
    exact ⟨h1, h2, by omega, by omega⟩
  have H0 : Hid (Below w.heap.size w W ∧ Blk W w.heap.size 26 #[.int .i64 wi, .int .i64 pu, .slice a n c] ∧ Blk W (w.heap.size + 1) 154 #[.slice none 0 0, .slice none 0 0, .slice none 0 0, .slice none 0 0]) := ⟨hb, hs, hr⟩
  have hs1 : w.heap.size + 1 < W.heap.size := hr.lt
  have HM : Hid (m.length ≤ 1048576) := hm
  have CM : Hid (∀ (t wn : Nat) (b : Option Addr) (cp : Nat) (V : World), wn ≤ 20 → wn ≤ cp → Below w.heap.size w V → NAt 1 V V.heap.size (.slice b wn cp) wn (qapN ls n t wn) → Calls Tryz.prog 182 #[.slice b wn cp, .slice am m.length cm] V fun e w' => ∃ x, e = .returned x ∧ ZOwn V.heap.size w'.heap.size w' x (sideL ls n wn t m) ∧ Below V.heap.size V w') := fun t wn b cp V h1 h2 hV hN => by
    have h := iMixed_any b cp (.slice am m.length cm) (qapN ls n t wn) m (by rw [qapN_len]; omega) (HL.out t wn) HM.out (by rw [qapN_len]; exact h2) V (by rw [qapN_len]; exact hN) ((HU.out.on hV).wide hV.size)
    rw [qapN_len] at h
    exact h
  have CZ : Hid (n ≤ 16 → ∀ V, Calls Tryz.prog 125 #[.int .i64 (n : Int)] V fun e w' => ∃ u, e = .returned u ∧ ZOwn V.heap.size w'.heap.size w' u (zerL n) ∧ Below V.heap.size V w') := fun h V => by
    have h1 := iZer_any (n : Int) V
    rwa [pZer_nat h] at h1
  clear hA hu hb hz hwf hr hm
  generalize m.length = ml at *
  go_enter Tryz.func129, Tryz.ntmps129
  go_wp2_with (refine load_blk rfl rfl rfl hs Tryz.underlying26 infoSy ?_)
  clear hW hs
  refine CQ.out.mono ?_
  rintro e w1 (⟨h0, rfl, hb1⟩ | ⟨hok, U, V, X, us, vs, xs, rfl, hT, hb1⟩)
  · have hres := H0.out.2.2.on hb1 H0.out.2.2.lt
    have HB1 : Hid (Below w.heap.size w w1) := H0.out.1.trans (hb1.mono H0.out.1.size)
    have hres1 := hres.lt
    obtain ⟨V0, hV0, hb0, hs0⟩ := box1 w1 122 #[.slice none 0 0, .slice none 0 0, .slice none 0 0]
    go_wp2_with (first | (refine store_blkS (cs' := #[.slice none 0 0, .slice none 0 0, .slice none 0 0]) rfl rfl rfl rfl rfl hs0 infoQa rfl (onesQa _ _ _ _ _ _ _ _ _) ?_; intro V4 hq4 hheap hoth hbel; have hb4 := hbel _ _ (Nat.le_refl _) hb0; clear hoth hbel hheap; have hres2 := hres.on hb4 hres.lt) | (refine store_blkS (cs' := #[.slice none 0 0, .slice none 0 0, .slice none 0 0, .slice none 0 0]) rfl rfl rfl rfl rfl hres2 infoMx rfl (onesMx _ _ _ _ _ _ _ _ _ _ _ _) ?_; intro V8 h8 hheap hoth hbel; have hb8 := hbel _ _ (by omega) (HB1.out.trans (hb4.mono HB1.out.size)); clear hoth hbel hheap))
    refine bodyPost_ret_by (result_Btmp rfl rfl rfl h8 Tryz.underlying154 infoMx) rfl (.inl ⟨by rw [h0]; rfl, rfl, hb8⟩)
  · obtain ⟨hw1, hw2, hn1, hn2⟩ := HOKN.out hok
    have HOK : Hid (sysOk wi pu n ls = true) := hok
    obtain ⟨wn, hwn⟩ : ∃ wn, wi.toNat = wn := ⟨_, rfl⟩
    have HWN : Hid (wi.toNat = wn) := hwn
    rw [hwn] at hT
    have hwn20 : wn ≤ 20 := by omega
    obtain ⟨ua, uc, hu⟩ := row_form hT.u.row
    subst hu
    obtain ⟨va, vc, hv⟩ := row_form hT.v.row
    subst hv
    obtain ⟨xa, xc, hx⟩ := row_form hT.x.row
    subst hx
    have HCP : Hid (wn ≤ uc ∧ wn ≤ vc ∧ wn ≤ xc) := ⟨owns_cap hT.u.row, owns_cap hT.v.row, owns_cap hT.x.row⟩
    have HT : Hid (NAt 1 w1 w1.heap.size (.slice ua wn uc) wn (qapN ls n 0 wn) ∧ NAt 1 w1 w1.heap.size (.slice va wn vc) wn (qapN ls n 1 wn) ∧ NAt 1 w1 w1.heap.size (.slice xa wn xc) wn (qapN ls n 2 wn)) := ⟨hT.u.at, hT.v.at, hT.x.at⟩
    have HB1 : Hid (Below w.heap.size w w1 ∧ Blk w1 w.heap.size 26 #[.int .i64 wi, .int .i64 pu, .slice a n c] ∧ Blk w1 (w.heap.size + 1) 154 #[.slice none 0 0, .slice none 0 0, .slice none 0 0, .slice none 0 0]) := ⟨H0.out.1.trans (hb1.mono H0.out.1.size), H0.out.2.1.on hb1 H0.out.2.1.lt, H0.out.2.2.on hb1 H0.out.2.2.lt⟩
    have hs2 : w.heap.size + 1 < w1.heap.size := HB1.out.2.2.lt
    clear hT hb1 H0 CQ hok hwn HOKN
    obtain ⟨V0, hV0, hb0, hs0⟩ := box1 w1 122 #[.slice none 0 0, .slice none 0 0, .slice none 0 0]
    go_wp2_with (refine store_blkS (cs' := #[.slice ua wn uc, .slice va wn vc, .slice xa wn xc]) rfl rfl rfl rfl rfl hs0 infoQa rfl (onesQa _ _ _ _ _ _ _ _ _) ?_; intro w2 hq2 hheap hoth hbel; have hb2 := hbel _ _ (Nat.le_refl _) hb0; clear hoth hbel hheap; have q0 : w2.cell? ⟨w.heap.size, 0, none⟩ = some (.int .i64 wi) := (HB1.out.2.1.on hb2 HB1.out.2.1.lt).cell 0)
    have HB2 : Hid (Below w.heap.size w w2) := HB1.out.1.trans (hb2.mono HB1.out.1.size)
    refine (CW.out _ HB2.out).mono ?_
    rintro e w3 ⟨rfl, hb3⟩
    have hb13 : Below w1.heap.size w1 w3 := hb2.trans (hb3.mono hb2.size)
    have HB3 : Hid (Below w.heap.size w w3 ∧ Blk w3 w.heap.size 26 #[.int .i64 wi, .int .i64 pu, .slice a n c] ∧ Blk w3 (w.heap.size + 1) 154 #[.slice none 0 0, .slice none 0 0, .slice none 0 0, .slice none 0 0] ∧ Blk w3 w1.heap.size 122 #[.slice ua wn uc, .slice va wn vc, .slice xa wn xc]) := ⟨HB2.out.trans (hb3.mono HB2.out.size), HB1.out.2.1.on hb13 HB1.out.2.1.lt, HB1.out.2.2.on hb13 HB1.out.2.2.lt, hq2.on hb3 hq2.lt⟩
    have HT3 : Hid (NAt 1 w3 w3.heap.size (.slice ua wn uc) wn (qapN ls n 0 wn) ∧ NAt 1 w3 w3.heap.size (.slice va wn vc) wn (qapN ls n 1 wn) ∧ NAt 1 w3 w3.heap.size (.slice xa wn xc) wn (qapN ls n 2 wn)) := ⟨(HT.out.1.on hb13).wide hb13.size, (HT.out.2.1.on hb13).wide hb13.size, (HT.out.2.2.on hb13).wide hb13.size⟩
    have hs3 : w1.heap.size < w3.heap.size := HB3.out.2.2.2.lt
    clear hb13 hb3 hb2 hq2 q0 HB2 HT hV0 hb0 hs0 HB1 CW
    cases hwd : wide m wi
    · have hres := HB3.out.2.2.1
      go_wp2_with (refine store_blkS (cs' := #[.slice none 0 0, .slice none 0 0, .slice none 0 0, .slice none 0 0]) rfl rfl rfl rfl rfl hres infoMx rfl (onesMx _ _ _ _ _ _ _ _ _ _ _ _) ?_; intro V8 h8 hheap hoth hbel; have hb8 := hbel _ _ (by omega) HB3.out.1; clear hoth hbel hheap)
      refine bodyPost_ret_by (result_Btmp rfl rfl rfl h8 Tryz.underlying154 infoMx) rfl (.inl ⟨by rw [hwd, Bool.and_false], rfl, hb8⟩)
    · have T0 : Below w3.heap.size w3 w3.drew := (Below.refl _ _).drew
      have hq3 := HB3.out.2.2.2
      have hy3 := HB3.out.2.1
      go_wp2_with fail
      refine wp_region_ord [(0, false), (1, false), (2, false), (4, false), (5, false), (6, false), (8, false), (9, false), (10, false), (12, false), (13, false), (14, false), (3, true), (7, true), (11, true), (15, true), (16, false), (17, true), (18, false)] (fun wz => Blk wz w1.heap.size 122 #[.slice ua wn uc, .slice va wn vc, .slice xa wn xc] ∧ Blk wz w.heap.size 26 #[.int .i64 wi, .int .i64 pu, .slice a n c]) mixesSc (by kernel_rfl) ⟨hq3.drew, hy3.drew⟩ ?_
      repeat (refine ord_float rfl rfl (fun K hK => ⟨_, (fun w' hw => by have q0 := hw.1.cell 0; have q1 :=  hw.1.cell 1; have q2 :=  hw.1.cell 2; have q3 :=  hw.2.cell 2; go_simp; exact rfl), ?_⟩); go_simp; refine hK _ ?_; clear hK K)
      have D0 : Below w.heap.size w w3.drew := HB3.out.1.drew
      refine ord_call rfl rfl (fun K hK => ⟨_, _, (by go_simp <;> first | exact rfl | exact ⟨rfl, rfl⟩), ?_⟩)
      refine (CM.out 0 wn _ _ _ hwn20 HCP.out.1 D0 (HT3.out.1.on T0)).mono ?_
      rintro e u1 ⟨A, rfl, hA1, hu1⟩
      have T1 := T0.trans (hu1.mono T0.size)
      refine ⟨_, rfl, ⟨hq3.on T1 hq3.lt, hy3.on T1 hy3.lt⟩, ?_⟩
      go_simp
      refine hK _ _ ?_
      clear hK K
      repeat (refine ord_float rfl rfl (fun K hK => ⟨_, (fun w' hw => by have q0 := hw.1.cell 0; have q1 :=  hw.1.cell 1; have q2 :=  hw.1.cell 2; have q3 :=  hw.2.cell 2; go_simp; exact rfl), ?_⟩); go_simp; refine hK _ ?_; clear hK K)
      refine ord_call rfl rfl (fun K hK => ⟨_, _, (by go_simp <;> first | exact rfl | exact ⟨rfl, rfl⟩), ?_⟩)
      refine (CM.out 1 wn _ _ _ hwn20 HCP.out.2.1 (HB3.out.1.trans (T1.mono HB3.out.1.size)) ((HT3.out.2.1.on T1).wide T1.size)).mono ?_
      rintro e u2 ⟨B, rfl, hB1, hu2⟩
      have T2 := T1.trans (hu2.mono T1.size)
      refine ⟨_, rfl, ⟨hq3.on T2 hq3.lt, hy3.on T2 hy3.lt⟩, ?_⟩
      go_simp
      refine hK _ _ ?_
      clear hK K
      repeat (refine ord_float rfl rfl (fun K hK => ⟨_, (fun w' hw => by have q0 := hw.1.cell 0; have q1 :=  hw.1.cell 1; have q2 :=  hw.1.cell 2; have q3 :=  hw.2.cell 2; go_simp; exact rfl), ?_⟩); go_simp; refine hK _ ?_; clear hK K)
      refine ord_call rfl rfl (fun K hK => ⟨_, _, (by go_simp <;> first | exact rfl | exact ⟨rfl, rfl⟩), ?_⟩)
      refine (CM.out 2 wn _ _ _ hwn20 HCP.out.2.2 (HB3.out.1.trans (T2.mono HB3.out.1.size)) ((HT3.out.2.2.on T2).wide T2.size)).mono ?_
      rintro e u3 ⟨C, rfl, hC1, hu3⟩
      have T3 := T2.trans (hu3.mono T2.size)
      refine ⟨_, rfl, ⟨hq3.on T3 hq3.lt, hy3.on T3 hy3.lt⟩, ?_⟩
      go_simp
      refine hK _ _ ?_
      clear hK K
      repeat (refine ord_float rfl rfl (fun K hK => ⟨_, (fun w' hw => by have q0 := hw.1.cell 0; have q1 :=  hw.1.cell 1; have q2 :=  hw.1.cell 2; have q3 :=  hw.2.cell 2; go_simp; exact rfl), ?_⟩); go_simp; refine hK _ ?_; clear hK K)
      refine ord_call rfl rfl (fun K hK => ⟨_, _, (by go_simp <;> first | exact rfl | exact ⟨rfl, rfl⟩), ?_⟩)
      refine (CZ.out hn2 _).mono ?_
      rintro e u4 ⟨Z, rfl, hZ1, hu4⟩
      have T4 := T3.trans (hu4.mono T3.size)
      refine ⟨_, rfl, ⟨hq3.on T4 hq3.lt, hy3.on T4 hy3.lt⟩, ?_⟩
      go_simp
      refine hK _ _ ?_
      clear hK K
      obtain ⟨Aa, Ac, hAv⟩ := row_form hA1.1
      subst hAv
      obtain ⟨Ba, Bc, hBv⟩ := row_form hB1.1
      subst hBv
      obtain ⟨Ca, Cc, hCv⟩ := row_form hC1.1
      subst hCv
      obtain ⟨Za, Zc, hZv⟩ := row_form hZ1.1
      subst hZv
      repeat (refine ord_float rfl rfl (fun K hK => ⟨_, (fun w' hw => by have q0 := hw.1.cell 0; have q1 :=  hw.1.cell 1; have q2 :=  hw.1.cell 2; have q3 :=  hw.2.cell 2; go_simp; exact rfl), ?_⟩); go_simp; refine hK _ ?_; clear hK K)
      have hres := HB3.out.2.2.1.on T4 HB3.out.2.2.1.lt
      have s3 : w3.heap.size ≤ w3.drew.heap.size := T0.size
      have s1 := T1.size
      have s2 := T2.size
      have s4 := T3.size
      have s5 := T4.size
      have r2 := hu2.size
      have r3 := hu3.size
      have r4 := hu4.size
      refine ord_storeS (cs' := #[.slice Aa (sideL ls n wn 0 m).length Ac, .slice Ba (sideL ls n wn 1 m).length Bc, .slice Ca (sideL ls n wn 2 m).length Cc, .slice Za (zerL n).length Zc]) rfl rfl rfl rfl rfl rfl hres infoMx rfl (onesMx _ _ _ _ _ _ _ _ _ _ _ _) ?_
      intro V8 h8 hheap hoth hbel
      have hb8 := hbel _ _ (by omega) (HB3.out.1.trans (T4.mono HB3.out.1.size))
      have hb9 := hbel 0 u4 (Nat.zero_le _) (Below.refl _ _)
      refine ⟨⟨hoth _ _ _ (by omega) (hq3.on T4 hq3.lt), hoth _ _ _ (by omega) (hy3.on T4 hy3.lt)⟩, ?_⟩
      repeat (refine ord_float rfl rfl (fun K hK => ⟨_, (fun w' hw => by have q0 := hw.1.cell 0; have q1 :=  hw.1.cell 1; have q2 :=  hw.1.cell 2; have q3 :=  hw.2.cell 2; go_simp; exact rfl), ?_⟩); go_simp; refine hK _ ?_; clear hK K)
      refine ord_nil ?_
      have hs9 := hb9.size
      have HF : Hid (ZAt V8 V8.heap.size (.slice Aa (sideL ls n wn 0 m).length Ac) (sideL ls n wn 0 m) ∧ ZAt V8 V8.heap.size (.slice Ba (sideL ls n wn 1 m).length Bc) (sideL ls n wn 1 m) ∧ ZAt V8 V8.heap.size (.slice Ca (sideL ls n wn 2 m).length Cc) (sideL ls n wn 2 m) ∧ ZAt V8 V8.heap.size (.slice Za (zerL n).length Zc) (zerL n)) := by
        refine ⟨?_, ?_, ?_, ?_⟩
        · exact (((((hA1.on hu2 (Nat.le_refl _)).on hu3 r2).on hu4 (by omega)).same (fun k h1 h2 => hheap k (by omega))).at).wide (by omega)
        · exact ((((hB1.on hu3 (Nat.le_refl _)).on hu4 r3).same (fun k h1 h2 => hheap k (by omega))).at).wide (by omega)
        · exact (((hC1.on hu4 (Nat.le_refl _)).same (fun k h1 h2 => hheap k (by omega))).at).wide (by omega)
        · exact ((hZ1.same (fun k h1 h2 => hheap k (by omega))).at).wide (by omega)
      clear hA1 hB1 hC1 hZ1 hu1 hu2 hu3 hu4 T0 T1 T2 T3 T4 hres hheap hoth hbel hb9
      go_wp2
      refine bodyPost_ret_by (result_Btmp rfl rfl rfl h8 Tryz.underlying154 infoMx) rfl (.inr ⟨by rw [HOK.out, hwd]; rfl, _, _, _, _, _, _, _, _, _, _, _, _, rfl, ?_⟩)
      rw [HWN.out]
      exact ⟨HF.out.1, HF.out.2.1, HF.out.2.2.1, HF.out.2.2.2, hb8⟩

end Go.Proofs.YthnahalboomkoaaGreat
