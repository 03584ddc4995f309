/-
  The walk of the program's word on how often each point of a Maker is the base.
  (-DROP-: what the seat lacks is left out.)
-/
import Derived.Test.YthnahalboomkoaaGreatJoined16
import Derived.Test.YthnahalboomkoaaGreatPrfI1
import Derived.Test.YthnahalboomkoaaGreatPrfKeys
import Derived.Test.YthnahalboomkoaaGreatJoined14
import Derived.Test.YthnahalboomkoaaGreatJoined24
import Derived.Test.YthnahalboomkoaaGreatJoined20
import Derived.Test.YthnahalboomkoaaGreatJoined9
import Derived.Test.YthnahalboomkoaaGreatJoined13
import Derived.Maps.AppendAt

namespace Go.Proofs.YthnahalboomkoaaGreat
open Go.RowKit

set_option maxHeartbeats 12800000 in
set_option maxRecDepth 100000 in
theorem iMult_any (wi pu : Int) (hwf : (Lit.int .i64 wi).wf = true) (a : Option Addr) (n c : Nat) (hn : n ≤ 9223372036854775807) (ls : List (List Int)) (hz : ∀ j, (ls.getD j []).length ≤ 9223372036854775807) (ta al be ga de : Int) (w : World) (hA : NAt 3 w w.heap.size (.slice a n c) n ls) :
    Calls Tryz.prog 47 #[.agg #[.int .i64 ta, .int .i64 al, .int .i64 be, .int .i64 ga, .int .i64 de], .agg #[.int .i64 wi, .int .i64 pu, .slice a n c]] w fun e w' => MulEnd w wi pu n ls ta al be ga de e w' := by
  obtain ⟨i0, hi, hz0, hz1, hz2⟩ := info_parts infoZi
  obtain ⟨W, hW, hb, hs, hr, ho⟩ := boxes2r w 31 26 85 #[.int .i64 ta, .int .i64 al, .int .i64 be, .int .i64 ga, .int .i64 de] #[.int .i64 wi, .int .i64 pu, .slice a n c] #[.slice none 0 0, .slice none 0 0, .slice none 0 0, .slice none 0 0, .slice none 0 0]
  have HA : Hid (NAt 3 w w.heap.size (.slice a n c) n ls) := hA
  have CT : Hid (∀ V, Below w.heap.size w V → Calls Tryz.prog 13 #[.agg #[.int .i64 wi, .int .i64 pu, .slice a n c], .agg #[.int .i64 ta, .int .i64 al, .int .i64 be, .int .i64 ga, .int .i64 de]] V fun e w' => e = .returned (.bool (toxB wi pu n ls ta al be ga de)) ∧ Below V.heap.size V w') := fun V hV => iToxic_any wi pu hwf a n c hn ls hz ta al be ga de V ((hA.on hV).wide hV.size)
  have CQ : Hid (∀ V, Below w.heap.size w V → Calls Tryz.prog 123 #[.agg #[.int .i64 wi, .int .i64 pu, .slice a n c]] V fun e w' => ∃ vu vv vx us vs xs, e = .returned (.tuple #[.agg #[vu, vv, vx], .bool (sysOk wi pu n ls)]) ∧ Tri 27 V.heap.size w'.heap.size w' vu (qapC wi pu n ls) us (qapN ls n 0 (qapC wi pu n ls)) vv (qapC wi pu n ls) vs (qapN ls n 1 (qapC wi pu n ls)) vx (qapC wi pu n ls) xs (qapN ls n 2 (qapC wi pu n ls)) ∧ Below V.heap.size V w') := fun V hV => iQapV wi pu hwf a n c hn ls hz V ((hA.on hV).wide hV.size)
  have H0 : Hid (Below w.heap.size w W ∧ Blk W w.heap.size 31 #[.int .i64 ta, .int .i64 al, .int .i64 be, .int .i64 ga, .int .i64 de] ∧ Blk W (w.heap.size + 1) 26 #[.int .i64 wi, .int .i64 pu, .slice a n c] ∧ Blk W (w.heap.size + 1 + 1) 85 #[.slice none 0 0, .slice none 0 0, .slice none 0 0, .slice none 0 0, .slice none 0 0]) := ⟨hb, hs, hr, ho⟩
  have hs1 : w.heap.size + 1 + 1 < W.heap.size := ho.lt
  clear hA hb hr hz hs ho HA
  obtain ⟨V0, hV0, hb0, hs0⟩ := box1 W 85 #[.slice none 0 0, .slice none 0 0, .slice none 0 0, .slice none 0 0, .slice none 0 0]
  go_enter Tryz.func47, Tryz.ntmps47
  go_wp2_with (first | (refine store_blkS (cs' := #[.slice none 0 0, .slice none 0 0, .slice none 0 0, .slice none 0 0, .slice none 0 0]) rfl rfl rfl rfl rfl hs0 infoMu rfl (ones5s _ _ _ _ _ _ _ _ _ _ _ _ _ _ _) ?_; intro V4 hq4 hheap hoth hbel; have hb4 := hbel _ _ (Nat.le_refl _) hb0; clear hoth hbel hheap; have hsy := H0.out.2.2.1.on hb4 H0.out.2.2.1.lt; have htx := H0.out.2.1.on hb4 H0.out.2.1.lt) | (refine load_blk rfl rfl rfl hsy Tryz.underlying26 infoSy ?_) | (refine load_blk rfl rfl rfl htx Tryz.underlying31 infoTxI ?_))
  have hs4 : W.heap.size < V4.heap.size := hq4.lt
  have hwV4 : Below w.heap.size w V4 := H0.out.1.trans (hb4.mono (by omega))
  refine (CT.out _ hwV4).mono ?_
  rintro e w1 ⟨rfl, hb1⟩
  have H1 : Hid (Below w.heap.size w w1 ∧ Blk w1 w.heap.size 31 #[.int .i64 ta, .int .i64 al, .int .i64 be, .int .i64 ga, .int .i64 de] ∧ Blk w1 (w.heap.size + 1) 26 #[.int .i64 wi, .int .i64 pu, .slice a n c] ∧ Blk w1 (w.heap.size + 1 + 1) 85 #[.slice none 0 0, .slice none 0 0, .slice none 0 0, .slice none 0 0, .slice none 0 0] ∧ Blk w1 W.heap.size 85 #[.slice none 0 0, .slice none 0 0, .slice none 0 0, .slice none 0 0, .slice none 0 0]) := ⟨hwV4.trans (hb1.mono hwV4.size), htx.on hb1 htx.lt, hsy.on hb1 hsy.lt, (H0.out.2.2.2.on hb4 H0.out.2.2.2.lt).on hb1 (by omega), hq4.on hb1 hq4.lt⟩
  have hs1w : W.heap.size < w1.heap.size := H1.out.2.2.2.2.lt
  clear hb1 H0 CT hwV4 hs4 hb4 hq4 hsy htx hV0 hb0 hs0 hW
  cases hok : toxB wi pu n ls ta al be ga de
  · have hres := H1.out.2.2.2.1
    have hq := H1.out.2.2.2.2
    go_wp2_with (first | (refine load_blk rfl rfl rfl hq Tryz.underlying85 infoMu ?_) | (refine store_blkS (cs' := #[.slice none 0 0, .slice none 0 0, .slice none 0 0, .slice none 0 0, .slice none 0 0]) rfl rfl rfl rfl rfl hres infoMu rfl (ones5s _ _ _ _ _ _ _ _ _ _ _ _ _ _ _) ?_; intro V8 h8 hheap hoth hbel; have hb8 := hbel _ _ (by omega) H1.out.1; clear hoth hbel hheap))
    refine bodyPost_ret_by (result_Btmp rfl rfl rfl h8 Tryz.underlying85 infoMu) rfl (.inl ⟨hok, rfl, hb8⟩)
  · have HOK : Hid (toxB wi pu n ls ta al be ga de = true) := hok
    obtain ⟨hso, hTx⟩ := tox_iff.1 hok
    have hS := sides_of hso
    obtain ⟨wn, hwn⟩ : ∃ wn, wn = wi.toNat := ⟨_, rfl⟩
    obtain ⟨p, hp⟩ : ∃ p, p = pu.toNat := ⟨_, rfl⟩
    have hqc : qapC wi pu n ls = wn := by unfold qapC; rw [hso, if_pos rfl, hwn]
    have HEnd : Hid (∀ e w', (∃ U V I L Z, e = .returned (.tuple #[.agg #[U, V, I, L, Z], .bool true]) ∧ RowF 3 1 w.heap.size w' (vec5 U V I L Z) (vec5 wn wn (p + 1) (wn - p - 1) (n - 1)) (vec5 (zsV (kUs ls n ta 0 wn)) (zsV (kUs ls n ta 1 wn)) (zsV (kIn ls n ta al be (scInv ga) (p + 1))) (zsV (kLs ls n p ta al be (scInv de) (wn - p - 1))) (zsV (kZs n ta (scInv de) (n - 1)))) ∧ Below w.heap.size w w') → MulEnd w wi pu n ls ta al be ga de e w') := fun e w' h => .inr ⟨hok, by rw [hwn, hp] at h; exact h⟩
    rw [← hwn, ← hp] at hS
    rw [hqc, hso] at CQ
    have hw20 : wn ≤ 20 := hS.one.2
    have hw1 : 1 ≤ wn := hS.one.1
    have hpw : p + 1 ≤ wn := hS.told
    have hn1 : 1 ≤ n := hS.rows.1
    have hn16 : n ≤ 16 := hS.rows.2
    have ewi := hS.wi
    have epu := hS.pu
    subst ewi epu
    clear hok hso hTx hS hwn hp hqc HOK
    -- the polynomials
    have hsy := H1.out.2.2.1
    go_wp2_with (refine load_blk rfl rfl rfl hsy Tryz.underlying26 infoSy ?_)
    refine (CQ.out _ H1.out.1).mono ?_
    rintro e w2 ⟨vu, vv, vx, us, vs, xs, rfl, hTri, hb2⟩
    obtain ⟨ua, uc, hu⟩ := row_form hTri.u.row
    subst hu
    obtain ⟨va, vc, hv⟩ := row_form hTri.v.row
    subst hv
    obtain ⟨xa, xc, hx⟩ := row_form hTri.x.row
    subst hx
    have hs2 : w1.heap.size ≤ w2.heap.size := hb2.size
    obtain ⟨V0, hV0, hb0, hs0⟩ := box1 w2 122 #[.slice none 0 0, .slice none 0 0, .slice none 0 0]
    go_wp2_with (refine store_blkS (cs' := #[.slice ua wn uc, .slice va wn vc, .slice xa wn xc]) rfl rfl rfl rfl rfl hs0 infoQa rfl (onesQa _ _ _ _ _ _ _ _ _) ?_; intro w3 hq3 hheap hoth hbel; have hb3 := hbel _ _ (Nat.le_refl _) hb0; clear hoth hbel hheap)
    have hs3 : w2.heap.size < w3.heap.size := hq3.lt
    have hb13 : Below w1.heap.size w1 w3 := hb2.trans (hb3.mono hs2)
    have HT3 : Hid (Tri 27 w1.heap.size w2.heap.size w3 (.slice ua wn uc) wn us (qapN ls n 0 wn) (.slice va wn vc) wn vs (qapN ls n 1 wn) (.slice xa wn xc) wn xs (qapN ls n 2 wn)) := hTri.same (Same.of_below hb3 (Nat.le_refl _))
    have H3 : Hid (Below w.heap.size w w3 ∧ Blk w3 w.heap.size 31 #[.int .i64 ta, .int .i64 al, .int .i64 be, .int .i64 ga, .int .i64 de] ∧ Blk w3 (w.heap.size + 1) 26 #[.int .i64 (wn : Int), .int .i64 (p : Int), .slice a n c] ∧ Blk w3 (w.heap.size + 1 + 1) 85 #[.slice none 0 0, .slice none 0 0, .slice none 0 0, .slice none 0 0, .slice none 0 0] ∧ Blk w3 W.heap.size 85 #[.slice none 0 0, .slice none 0 0, .slice none 0 0, .slice none 0 0, .slice none 0 0] ∧ Blk w3 w2.heap.size 122 #[.slice ua wn uc, .slice va wn vc, .slice xa wn xc]) := ⟨H1.out.1.trans (hb13.mono H1.out.1.size), H1.out.2.1.on hb13 H1.out.2.1.lt, H1.out.2.2.1.on hb13 H1.out.2.2.1.lt, H1.out.2.2.2.1.on hb13 H1.out.2.2.2.1.lt, H1.out.2.2.2.2.on hb13 H1.out.2.2.2.2.lt, hq3⟩
    clear hTri hb2 hb3 hq3 hV0 hb0 hs0 hsy H1 CQ hb13
    -- what is multiplied by in the place of a division
    have htx := H3.out.2.1
    have CI1 : Hid (∀ X, Calls Tryz.prog 96 #[.int .i64 ga] X fun e w' => e = .returned (.int .i64 (scInv ga)) ∧ X = w') := iScInv_any _
    have CI2 : Hid (∀ X, Calls Tryz.prog 96 #[.int .i64 de] X fun e w' => e = .returned (.int .i64 (scInv de)) ∧ X = w') := iScInv_any _
    generalize scInv ga = gi at CI1 HEnd
    generalize scInv de = di at CI2 HEnd
    have T0 : Below w3.heap.size w3 w3.drew := (Below.refl _ _).drew
    go_wp2_with fail
    refine wp_region_ord [(0, false), (1, false), (3, false), (4, false), (2, true), (5, true), (6, false), (7, false)] (fun wz => Below w3.heap.size w3 wz) mixesSc (by kernel_rfl) T0 ?_
    repeat (refine ord_float rfl rfl (fun K hK => ⟨_, (fun w' hw => by have q0 := (htx.on hw htx.lt).cell 3; have q1 :=  (htx.on hw htx.lt).cell 4; go_simp; exact rfl), ?_⟩); go_simp; refine hK _ ?_; clear hK K)
    refine ord_call rfl rfl (fun K hK => ⟨_, _, (by go_simp <;> first | exact rfl | exact ⟨rfl, rfl⟩), ?_⟩)
    refine (CI1.out _).mono ?_
    rintro e u1 ⟨rfl, hu1⟩
    have T1 : Below w3.heap.size w3 u1 := hu1 ▸ T0
    refine ⟨_, rfl, T1, ?_⟩
    go_simp
    refine hK _ _ ?_
    clear hK K
    repeat (refine ord_float rfl rfl (fun K hK => ⟨_, (fun w' hw => by have q0 := (htx.on hw htx.lt).cell 3; have q1 :=  (htx.on hw htx.lt).cell 4; go_simp; exact rfl), ?_⟩); go_simp; refine hK _ ?_; clear hK K)
    refine ord_call rfl rfl (fun K hK => ⟨_, _, (by go_simp <;> first | exact rfl | exact ⟨rfl, rfl⟩), ?_⟩)
    refine (CI2.out _).mono ?_
    rintro e u2 ⟨rfl, hu2⟩
    have T2 : Below w3.heap.size w3 u2 := hu2 ▸ T1
    refine ⟨_, rfl, T2, ?_⟩
    go_simp
    refine hK _ _ ?_
    clear hK K
    repeat (refine ord_float rfl rfl (fun K hK => ⟨_, (fun w' hw => by have q0 := (htx.on hw htx.lt).cell 3; have q1 :=  (htx.on hw htx.lt).cell 4; go_simp; exact rfl), ?_⟩); go_simp; refine hK _ ?_; clear hK K)
    refine ord_nil ?_
    have hs5 : w3.heap.size ≤ u2.heap.size := T2.size
    have H5 : Hid (Below w.heap.size w u2 ∧ Blk u2 w.heap.size 31 #[.int .i64 ta, .int .i64 al, .int .i64 be, .int .i64 ga, .int .i64 de] ∧ Blk u2 (w.heap.size + 1) 26 #[.int .i64 (wn : Int), .int .i64 (p : Int), .slice a n c] ∧ Blk u2 (w.heap.size + 1 + 1) 85 #[.slice none 0 0, .slice none 0 0, .slice none 0 0, .slice none 0 0, .slice none 0 0] ∧ Blk u2 W.heap.size 85 #[.slice none 0 0, .slice none 0 0, .slice none 0 0, .slice none 0 0, .slice none 0 0] ∧ Blk u2 w2.heap.size 122 #[.slice ua wn uc, .slice va wn vc, .slice xa wn xc]) := ⟨H3.out.1.trans (T2.mono H3.out.1.size), H3.out.2.1.on T2 H3.out.2.1.lt, H3.out.2.2.1.on T2 H3.out.2.2.1.lt, H3.out.2.2.2.1.on T2 H3.out.2.2.2.1.lt, H3.out.2.2.2.2.1.on T2 H3.out.2.2.2.2.1.lt, H3.out.2.2.2.2.2.on T2 H3.out.2.2.2.2.2.lt⟩
    have HT5 : Hid (Tri 27 w1.heap.size w2.heap.size u2 (.slice ua wn uc) wn us (qapN ls n 0 wn) (.slice va wn vc) wn vs (qapN ls n 1 wn) (.slice xa wn xc) wn xs (qapN ls n 2 wn)) := HT3.out.same (Same.of_below T2 (by omega))
    have HS0 : Hid (St 3 1 85 W.heap.size u2 u2 (vec5 (.slice none 0 0) (.slice none 0 0) (.slice none 0 0) (.slice none 0 0) (.slice none 0 0)) (vec5 0 0 0 0 0) (vec5 [] [] [] [] [])) := ⟨Kps.refl _ _, H5.out.2.2.2.2.1, ⟨fun i hi => by
        have e : vec5 (.slice none 0 0) (.slice none 0 0) (.slice none 0 0) (.slice none 0 0) (.slice none 0 0) i = (.slice none 0 0 : Value) := by match i with
          | 0 => rfl
          | 1 => rfl
          | 2 => rfl
          | 3 => rfl
          | _ + 4 => rfl
        have e1 : vec5 0 0 0 0 0 i = (0 : Nat) := by match i with
          | 0 => rfl
          | 1 => rfl
          | 2 => rfl
          | 3 => rfl
          | _ + 4 => rfl
        have e2 : vec5 [] [] [] [] [] i = ([] : List Value) := by match i with
          | 0 => rfl
          | 1 => rfl
          | 2 => rfl
          | 3 => rfl
          | _ + 4 => rfl
        rw [e, e1, e2]
        exact ⟨rfl, .inl ⟨rfl, rfl⟩⟩, fun i j k hi hj hne he => by
        have e : vec5 (.slice none 0 0) (.slice none 0 0) (.slice none 0 0) (.slice none 0 0) (.slice none 0 0) i = (.slice none 0 0 : Value) := by match i with
          | 0 => rfl
          | 1 => rfl
          | 2 => rfl
          | 3 => rfl
          | _ + 4 => rfl
        rw [e] at he
        cases he⟩, by omega⟩
    clear H3 HT3 T0 T1 T2 hu1 hu2 htx CI1 CI2
    generalize u2 = w5 at *
    have CA : Hid (∀ (t : Nat) (v : Value) (X : World), ZAt X X.heap.size v (pThr (colL ls n t 0)) → True) := fun _ _ _ _ => trivial
    clear CA
    have hcw : w5.cell? ⟨w.heap.size + 1, 0, none⟩ = some (.int .i64 (wn : Int)) := H5.out.2.2.1.cell 0
    go_wp2
    clear hcw
    go_loopw [36] (fun iv wr => ∃ (j ni nl : Nat) (v0 v1 v2 v3 : Value), iv = .int .i64 (j : Int) ∧ j ≤ wn ∧ Hid (ni = min j (p + 1) ∧ nl = j - (p + 1)) ∧ Hid (St 3 1 85 W.heap.size w5 wr (vec5 v0 v1 v2 v3 (.slice none 0 0)) (vec5 j j ni nl 0) (vec5 (zsV (kUs ls n ta 0 j)) (zsV (kUs ls n ta 1 j)) (zsV (kIn ls n ta al be gi ni)) (zsV (kLs ls n p ta al be di nl)) []))) (fun iv _ => wn - (intOf iv).toNat)
    case atStart => exact ⟨0, 0, 0, _, _, _, _, rfl, Nat.zero_le _, ⟨by omega, by omega⟩, HS0⟩
    case round =>
      obtain ⟨j, ni, nl, v0, v1, v2, v3, rfl, hj, HN, HS⟩ := hrel
      clear HS0
      have hKr := HS.out.kps
      have hwr : w5.heap.size ≤ wr.heap.size := hKr.size
      have htx : Blk wr w.heap.size 31 #[.int .i64 ta, .int .i64 al, .int .i64 be, .int .i64 ga, .int .i64 de] := hKr.blk H5.out.2.1 (by omega)
      have hsy : Blk wr (w.heap.size + 1) 26 #[.int .i64 (wn : Int), .int .i64 (p : Int), .slice a n c] := hKr.blk H5.out.2.2.1 (by omega)
      have hqa : Blk wr w2.heap.size 122 #[.slice ua wn uc, .slice va wn vc, .slice xa wn xc] := hKr.blk H5.out.2.2.2.2.2 (by omega)
      by_cases hlt : j < wn
      · have hlt' : (j : Int) < (wn : Int) := by omega
        have hj0 : (0 : Int) ≤ (j : Int) := by omega
        have hTr := HT5.out.same (Same.of_kps hKr (by omega) (fun k h1 h2 e => by omega))
        have hN0 := hTr.u.at
        obtain ⟨_, _, _, e0, F0⟩ := hN0
        obtain ⟨b0, o0, y0, k0, l0, d0, z0⟩ := F0 j (by omega)
        have ea0 : ua = some ⟨b0, o0, none⟩ := by injection e0 with e1; rw [e1, k0]
        subst ea0
        rw [qapN_at ls n 0 wn j hlt] at z0
        have C0 : Hid (∀ X, Below wr.heap.size wr X → Calls Tryz.prog 124 #[y0, .int .i64 ta] X fun e w' => e = .returned (.int .i64 (kW ls n ta 0 j)) ∧ Below X.heap.size X w') := fun X hX => iAt_any y0 _ ta (pThr_len _) X (((z0.wide (show w2.heap.size ≤ wr.heap.size by omega)).on hX).wide hX.size)
        have D0 : Hid (∀ X, Below wr.heap.size wr X → X.cell? ⟨b0, o0 + j, none⟩ = some y0) := fun X hX => (hX.cell (p := ⟨b0, o0 + j, none⟩) (by show b0 < _; omega)).trans d0
        obtain ⟨ya0, yc0, hy0, _⟩ := id z0
        subst hy0
        clear e0 F0 k0 l0 d0 z0
        have hN1 := hTr.v.at
        obtain ⟨_, _, _, e1, F1⟩ := hN1
        obtain ⟨b1, o1, y1, k1, l1, d1, z1⟩ := F1 j (by omega)
        have ea1 : va = some ⟨b1, o1, none⟩ := by injection e1 with e1; rw [e1, k1]
        subst ea1
        rw [qapN_at ls n 1 wn j hlt] at z1
        have C1 : Hid (∀ X, Below wr.heap.size wr X → Calls Tryz.prog 124 #[y1, .int .i64 ta] X fun e w' => e = .returned (.int .i64 (kW ls n ta 1 j)) ∧ Below X.heap.size X w') := fun X hX => iAt_any y1 _ ta (pThr_len _) X (((z1.wide (show w2.heap.size ≤ wr.heap.size by omega)).on hX).wide hX.size)
        have D1 : Hid (∀ X, Below wr.heap.size wr X → X.cell? ⟨b1, o1 + j, none⟩ = some y1) := fun X hX => (hX.cell (p := ⟨b1, o1 + j, none⟩) (by show b1 < _; omega)).trans d1
        obtain ⟨ya1, yc1, hy1, _⟩ := id z1
        subst hy1
        clear e1 F1 k1 l1 d1 z1
        have hN2 := hTr.x.at
        obtain ⟨_, _, _, e2, F2⟩ := hN2
        obtain ⟨b2, o2, y2, k2, l2, d2, z2⟩ := F2 j (by omega)
        have ea2 : xa = some ⟨b2, o2, none⟩ := by injection e2 with e1; rw [e1, k2]
        subst ea2
        rw [qapN_at ls n 2 wn j hlt] at z2
        have C2 : Hid (∀ X, Below wr.heap.size wr X → Calls Tryz.prog 124 #[y2, .int .i64 ta] X fun e w' => e = .returned (.int .i64 (kW ls n ta 2 j)) ∧ Below X.heap.size X w') := fun X hX => iAt_any y2 _ ta (pThr_len _) X (((z2.wide (show w2.heap.size ≤ wr.heap.size by omega)).on hX).wide hX.size)
        have D2 : Hid (∀ X, Below wr.heap.size wr X → X.cell? ⟨b2, o2 + j, none⟩ = some y2) := fun X hX => (hX.cell (p := ⟨b2, o2 + j, none⟩) (by show b2 < _; omega)).trans d2
        obtain ⟨ya2, yc2, hy2, _⟩ := id z2
        subst hy2
        clear e2 F2 k2 l2 d2 z2
        have HA1 : Hid (kAll ls n ta al be j = wireA al be (kW ls n ta 0 j) (kW ls n ta 1 j) (kW ls n ta 2 j)) := rfl
        have HX0 : Hid (zsV (kUs ls n ta 0 (j + 1)) = zsV (kUs ls n ta 0 j) ++ [.int .i64 (kW ls n ta 0 j)]) := zsV_zls _ _
        have HX1 : Hid (zsV (kUs ls n ta 1 (j + 1)) = zsV (kUs ls n ta 1 j) ++ [.int .i64 (kW ls n ta 1 j)]) := zsV_zls _ _
        have CG : Hid (∀ V, Calls Tryz.prog 56 #[.int .i64 (kAll ls n ta al be j), .int .i64 gi] V fun e w' => e = .returned (.int .i64 (kBy ls n ta al be gi j)) ∧ V = w') := iScMul_any _ _
        have CDl : Hid (∀ V, Calls Tryz.prog 56 #[.int .i64 (kAll ls n ta al be j), .int .i64 di] V fun e w' => e = .returned (.int .i64 (kBy ls n ta al be di j)) ∧ V = w') := iScMul_any _ _
        generalize (pThr (colL ls n 0 j)).length = m0 at *
        generalize (pThr (colL ls n 1 j)).length = m1 at *
        generalize (pThr (colL ls n 2 j)).length = m2 at *
        generalize kW ls n ta 0 j = p0 at *
        generalize kW ls n ta 1 j = p1 at *
        generalize kW ls n ta 2 j = p2 at *
        generalize kAll ls n ta al be j = al1 at *
        clear hTr hKr
        go_wp2_with fail
        have T0 : Below wr.heap.size wr wr.drew := (Below.refl _ _).drew
        refine wp_region_ord [(0, false), (1, false), (2, false), (3, false), (4, false), (5, false), (6, false), (8, false), (9, false), (10, false), (11, false), (12, false), (13, false), (14, false), (16, false), (17, false), (18, false), (19, false), (20, false), (21, false), (22, false), (7, true), (15, true), (23, true), (24, false), (25, false), (26, false)] (fun wz => Below wr.heap.size wr wz) mixesSc (by kernel_rfl) T0 ?_
        repeat (refine ord_float rfl rfl (fun K hK => ⟨_, (fun w' hw => by have q0 := (hqa.on hw hqa.lt).cell 0; have q1 :=  (hqa.on hw hqa.lt).cell 1; have q2 :=  (hqa.on hw hqa.lt).cell 2; have q3 :=  (htx.on hw htx.lt).cell 0; have q4 :=  D0.out _ hw; have q5 :=  D1.out _ hw; have q6 :=  D2.out _ hw; go_simp; exact rfl), ?_⟩); go_simp; refine hK _ ?_; clear hK K)
        refine ord_call rfl rfl (fun K hK => ⟨_, _, (by go_simp <;> first | exact rfl | exact ⟨rfl, rfl⟩), ?_⟩)
        refine (C0.out _ T0).mono ?_
        rintro e u1 ⟨rfl, hu1⟩
        have T1 := below_then T0 hu1
        refine ⟨_, rfl, T1, ?_⟩
        go_simp
        refine hK _ _ ?_
        clear hK K
        refine ord_call rfl rfl (fun K hK => ⟨_, _, (by go_simp <;> first | exact rfl | exact ⟨rfl, rfl⟩), ?_⟩)
        refine (C1.out _ T1).mono ?_
        rintro e u2 ⟨rfl, hu2⟩
        have T2 := below_then T1 hu2
        refine ⟨_, rfl, T2, ?_⟩
        go_simp
        refine hK _ _ ?_
        clear hK K
        refine ord_call rfl rfl (fun K hK => ⟨_, _, (by go_simp <;> first | exact rfl | exact ⟨rfl, rfl⟩), ?_⟩)
        refine (C2.out _ T2).mono ?_
        rintro e u3 ⟨rfl, hu3⟩
        have T3 := below_then T2 hu3
        refine ⟨_, rfl, T3, ?_⟩
        go_simp
        refine hK _ _ ?_
        clear hK K
        repeat (refine ord_float rfl rfl (fun K hK => ⟨_, (fun w' hw => by have q0 := (hqa.on hw hqa.lt).cell 0; have q1 :=  (hqa.on hw hqa.lt).cell 1; have q2 :=  (hqa.on hw hqa.lt).cell 2; have q3 :=  (htx.on hw htx.lt).cell 0; have q4 :=  D0.out _ hw; have q5 :=  D1.out _ hw; have q6 :=  D2.out _ hw; go_simp; exact rfl), ?_⟩); go_simp; refine hK _ ?_; clear hK K)
        refine ord_nil ?_
        have htx3 := htx.on T3 htx.lt
        have q1 : u3.cell? ⟨w.heap.size, 1, none⟩ = some (.int .i64 al) := htx3.cell 1
        have q2 : u3.cell? ⟨w.heap.size, 2, none⟩ = some (.int .i64 be) := htx3.cell 2
        obtain ⟨Wd, hWd, hbd, hd1, hd2⟩ := boxes1r u3 3 3 #[.int .i64 be, .int .i64 al, .int .i64 1] #[.int .i64 p0, .int .i64 p1, .int .i64 p2]
        have CD : Hid (Calls Tryz.prog 95 #[.slice (some ⟨u3.heap.size, 0, none⟩) 3 3, .slice (some ⟨u3.heap.size + 1, 0, none⟩) 3 3] Wd fun e w' => e = .returned (.int .i64 al1) ∧ Below Wd.heap.size Wd w') := by
          have h := iDot_any (some ⟨u3.heap.size, 0, none⟩) (some ⟨u3.heap.size + 1, 0, none⟩) 3 3 3 3 (by decide) _ _ Wd (ints3 hd1.lt hd1) (ints3 hd2.lt hd2)
          rw [show min 3 3 = 3 from rfl, wire_dot, ← HA1.out] at h
          exact h
        have HS3 : Hid (St 3 1 85 W.heap.size w5 Wd (vec5 v0 v1 v2 v3 (.slice none 0 0)) (vec5 j j ni nl 0) (vec5 (zsV (kUs ls n ta 0 j)) (zsV (kUs ls n ta 1 j)) (zsV (kIn ls n ta al be gi ni)) (zsV (kLs ls n p ta al be di nl)) [])) := (HS.out.below T3).below hbd
        clear hd1 hd2 hbd htx3 T0 T1 T2 T3 hu1 hu2 hu3 HS C0 C1 C2 D0 D1 D2 htx hqa hsy
        go_wp2_with fail
        clear hWd q1 q2
        refine CD.out.mono ?_
        rintro e Y0 ⟨rfl, hbY⟩
        have HS4 : Hid (St 3 1 85 W.heap.size w5 Y0 (vec5 v0 v1 v2 v3 (.slice none 0 0)) (vec5 j j ni nl 0) (vec5 (zsV (kUs ls n ta 0 j)) (zsV (kUs ls n ta 1 j)) (zsV (kIn ls n ta al be gi ni)) (zsV (kLs ls n p ta al be di nl)) [])) := HS3.out.below hbY
        clear HS3 hbY CD
        generalize hx0 : zsV (kUs ls n ta 0 j) = X0 at HS4 HX0
        generalize hx1 : zsV (kUs ls n ta 1 j) = X1 at HS4 HX1
        clear hx0 hx1
        generalize hx2 : zsV (kIn ls n ta al be gi ni) = X2 at HS4
        generalize hx3 : zsV (kLs ls n p ta al be di nl) = X3 at HS4
        have HX2 : Hid (zsV (kIn ls n ta al be gi ni) = X2) := hx2
        have HX3 : Hid (zsV (kLs ls n p ta al be di nl) = X3) := hx3
        clear hx2 hx3
        have hni : ni ≤ 20 := by have := HN.out; omega
        have hnl : nl ≤ 20 := by have := HN.out; omega
        have hba : Blk Y0 W.heap.size 85 #[v0, v1, v2, v3, (.slice none 0 0)] := HS4.out.blk
        have qa : Y0.cell? ⟨W.heap.size, 0, none⟩ = some v0 := hba.cell 0
        obtain ⟨fa, fc, hfv⟩ := row_form (HS4.out.row.row 0 (by decide))
        replace hfv : v0 = .slice fa j fc := hfv
        have HSa := HS4.out.alloc (.cells #[.int .i64 p0] 3)
        have hrow : (Y0.alloc (.cells #[.int .i64 p0] 3)).ownsRow w5.heap.size 3 1 (.slice fa j fc) j X0 := by have h := HSa.row.row 0 (by decide); rw [← hfv]; exact h
        have hroom : w5.heap.size ≤ (Y0.alloc (.cells #[.int .i64 p0] 3)).heap.size := HSa.kps.size
        have hm63 : j + 1 ≤ maxLen := by unfold maxLen; omega
        have hm47 : (j + 1) * 8 ≤ 140737488355328 := by omega
        rw [hfv] at qa
        clear hba
        go_wp2_with (at_builtin; refine wpList_append_own_at _ rfl _ _ 27 rfl w5.heap.size 3 i0 (.int .i64 0) 1 8 Tryz.underlying27 hi hz0 hz1 hz2 rfl (by decide) _ _ _ rfl hrow ⟨Y0.heap.size, 0, none⟩ 1 1 [.int .i64 p0] rfl rfl (cell_one_new _ _ _) (one_cell _ _) hm63 hm47 hroom ?_)
        intro nv yb hown' hgrow _ hat
        rw [← hfv] at hgrow hat
        have hbm : Blk yb W.heap.size 85 #[v0, v1, v2, v3, (.slice none 0 0)] := HSa.mid 0 (by decide) hgrow
        have HSn := HSa.step 0 (by decide) hown' hgrow (hat.imp id fun h => h.trans (by simp))
        obtain ⟨na, nc, hnv⟩ := row_form hown'
        subst hnv
        clear qa hm63 hm47 hroom hrow
        go_wp2_with (refine store_fieldZ rfl rfl rfl (i := 0) rfl rfl hbm rfl ?_)
        intro Y1 hY1
        have HS5 : Hid (St 3 1 85 W.heap.size w5 Y1 (vec5 (.slice na (j + 1) nc) v1 v2 v3 (.slice none 0 0)) (vec5 (j + 1) j ni nl 0) (vec5 (zsV (kUs ls n ta 0 (j + 1))) X1 X2 X3 [])) := by rw [hY1, HX0.out]; exact (by have h := HSn; rw [set5_0, set5_0, set5_0] at h; exact h)
        clear hY1 HSn HSa hbm hown' hgrow hat HS4 hfv
        generalize hqY1 : (Value.slice na (j + 1) nc) = nvY1 at HS5
        clear hqY1
        have hba : Blk Y1 W.heap.size 85 #[nvY1, v1, v2, v3, (.slice none 0 0)] := HS5.out.blk
        have qa : Y1.cell? ⟨W.heap.size, 1, none⟩ = some v1 := hba.cell 1
        obtain ⟨fa, fc, hfv⟩ := row_form (HS5.out.row.row 1 (by decide))
        replace hfv : v1 = .slice fa j fc := hfv
        have HSa := HS5.out.alloc (.cells #[.int .i64 p1] 3)
        have hrow : (Y1.alloc (.cells #[.int .i64 p1] 3)).ownsRow w5.heap.size 3 1 (.slice fa j fc) j X1 := by have h := HSa.row.row 1 (by decide); rw [← hfv]; exact h
        have hroom : w5.heap.size ≤ (Y1.alloc (.cells #[.int .i64 p1] 3)).heap.size := HSa.kps.size
        have hm63 : j + 1 ≤ maxLen := by unfold maxLen; omega
        have hm47 : (j + 1) * 8 ≤ 140737488355328 := by omega
        rw [hfv] at qa
        clear hba
        go_wp2_with (at_builtin; refine wpList_append_own_at _ rfl _ _ 27 rfl w5.heap.size 3 i0 (.int .i64 0) 1 8 Tryz.underlying27 hi hz0 hz1 hz2 rfl (by decide) _ _ _ rfl hrow ⟨Y1.heap.size, 0, none⟩ 1 1 [.int .i64 p1] rfl rfl (cell_one_new _ _ _) (one_cell _ _) hm63 hm47 hroom ?_)
        intro nv yb hown' hgrow _ hat
        rw [← hfv] at hgrow hat
        have hbm : Blk yb W.heap.size 85 #[nvY1, v1, v2, v3, (.slice none 0 0)] := HSa.mid 1 (by decide) hgrow
        have HSn := HSa.step 1 (by decide) hown' hgrow (hat.imp id fun h => h.trans (by simp))
        obtain ⟨na, nc, hnv⟩ := row_form hown'
        subst hnv
        clear qa hm63 hm47 hroom hrow
        go_wp2_with (refine store_fieldZ rfl rfl rfl (i := 1) rfl rfl hbm rfl ?_)
        intro Y2 hY2
        have HS6 : Hid (St 3 1 85 W.heap.size w5 Y2 (vec5 nvY1 (.slice na (j + 1) nc) v2 v3 (.slice none 0 0)) (vec5 (j + 1) (j + 1) ni nl 0) (vec5 (zsV (kUs ls n ta 0 (j + 1))) (zsV (kUs ls n ta 1 (j + 1))) X2 X3 [])) := by rw [hY2, HX1.out]; exact (by have h := HSn; rw [set5_1, set5_1, set5_1] at h; exact h)
        clear hY2 HSn HSa hbm hown' hgrow hat HS5 hfv
        generalize hqY2 : (Value.slice na (j + 1) nc) = nvY2 at HS6
        clear hqY2
        have hsyw : Blk Y2 (w.heap.size + 1) 26 #[.int .i64 (wn : Int), .int .i64 (p : Int), .slice a n c] := HS6.out.kps.blk H5.out.2.2.1 (by omega)
        have qp : Y2.cell? ⟨w.heap.size + 1, 1, none⟩ = some (.int .i64 (p : Int)) := hsyw.cell 1
        clear hsyw
        by_cases hjp : j ≤ p
        · have hjp' : (j : Int) ≤ (p : Int) := by omega
          go_wp2_with fail
          clear qp
          have HXI : Hid (zsV (kIn ls n ta al be gi (ni + 1)) = X2 ++ [.int .i64 (kBy ls n ta al be gi j)]) := by show _ = _; rw [← HX2.out, show j = ni by have := HN.out; omega]; exact zsV_zls _ _
          generalize kBy ls n ta al be gi j = xg at CG HXI
          have hba : Blk Y2 W.heap.size 85 #[nvY1, nvY2, v2, v3, (.slice none 0 0)] := HS6.out.blk
          obtain ⟨fa, fc, hfv⟩ := row_form (HS6.out.row.row 2 (by decide))
          replace hfv : v2 = .slice fa ni fc := hfv
          have hm63 : ni + 1 ≤ maxLen := by unfold maxLen; omega
          have hm47 : (ni + 1) * 8 ≤ 140737488355328 := by omega
          subst hfv
          refine wp_region_last [(0, false), (1, false), (2, false), (3, false), (4, true), (5, true), (6, true), (7, false)] 8 (fun wz => Blk wz W.heap.size 85 #[nvY1, nvY2, (.slice fa ni fc), v3, (.slice none 0 0)]) mixesSc (by kernel_rfl) hba.drew ?_
          repeat (refine ord_float rfl rfl (fun K hK => ⟨_, (fun w' hw => by have q0 := hw.cell 2; go_simp; exact rfl), ?_⟩); go_simp; refine hK _ ?_; clear hK K)
          refine ord_call rfl rfl (fun K hK => ⟨_, _, (by go_simp <;> first | exact rfl | exact ⟨rfl, rfl⟩), ?_⟩)
          refine (CG.out _).mono ?_
          rintro e z0 ⟨rfl, hz0e⟩
          have hqu : Blk z0 W.heap.size 85 #[nvY1, nvY2, (.slice fa ni fc), v3, (.slice none 0 0)] := hz0e ▸ hba.drew
          refine ⟨_, rfl, hqu, ?_⟩
          go_simp
          refine hK _ _ ?_
          clear hK K
          repeat (refine ord_float rfl rfl (fun K hK => ⟨_, (fun w' hw => by have q0 := hw.cell 2; go_simp; exact rfl), ?_⟩); go_simp; refine hK _ ?_; clear hK K)
          have HSz : St 3 1 85 W.heap.size w5 z0 (vec5 nvY1 nvY2 (.slice fa ni fc) v3 (.slice none 0 0)) (vec5 (j + 1) (j + 1) ni nl 0) (vec5 (zsV (kUs ls n ta 0 (j + 1))) (zsV (kUs ls n ta 1 (j + 1))) X2 X3 []) := hz0e ▸ HS6.out.below (Below.refl _ _).drew
          have HSa := HSz.alloc (.cells #[.int .i64 xg] 3)
          have hqa2 : Blk (z0.alloc (.cells #[.int .i64 xg] 3)) W.heap.size 85 #[nvY1, nvY2, (.slice fa ni fc), v3, (.slice none 0 0)] := HSa.blk
          refine ord_op rfl rfl (fun K hK => ⟨.slice (some ⟨z0.heap.size, 0, none⟩) 1 1, (z0.alloc (.cells #[.int .i64 xg] 3)), (by go_simp <;> rfl), hqa2, ?_⟩)
          go_simp
          refine hK _ _ ?_
          clear hK K
          have hrow : (z0.alloc (.cells #[.int .i64 xg] 3)).ownsRow w5.heap.size 3 1 (.slice fa ni fc) ni X2 := HSa.row.row 2 (by decide)
          refine ord_append rfl rfl _ _ 27 rfl w5.heap.size 3 i0 (.int .i64 0) 1 8 Tryz.underlying27 hi hz0 hz1 hz2 rfl (by decide) _ _ _ rfl hrow ⟨z0.heap.size, 0, none⟩ 1 1 [.int .i64 xg] rfl rfl (cell_one_new _ _ _) (one_cell _ _) hm63 hm47 HSa.kps.size ?_
          intro nv yb hown' hgrow hat
          have hbm : Blk yb W.heap.size 85 #[nvY1, nvY2, (.slice fa ni fc), v3, (.slice none 0 0)] := HSa.mid 2 (by decide) hgrow
          refine ⟨hbm, fun K hK => ?_⟩
          go_simp
          refine hK _ ?_
          clear hK K
          repeat (refine ord_float rfl rfl (fun K hK => ⟨_, (fun w' hw => by have q0 := hw.cell 2; go_simp; exact rfl), ?_⟩); go_simp; refine hK _ ?_; clear hK K)
          refine ord_nil ?_
          have HSn := HSa.step 2 (by decide) hown' hgrow hat
          obtain ⟨na, nc, hnv⟩ := row_form hown'
          subst hnv
          have hcy := hbm.cell 2
          have hfy := hbm.free 2
          refine last_store rfl rfl rfl (yb.setCell ⟨W.heap.size, 2, none⟩ (.slice na (ni + 1) nc)) (by go_simp <;> rfl) ?_
          have HSE : Hid (St 3 1 85 W.heap.size w5 (yb.setCell ⟨W.heap.size, 2, none⟩ (.slice na (ni + 1) nc)) (vec5 nvY1 nvY2 (.slice na (ni + 1) nc) v3 (.slice none 0 0)) (vec5 (j + 1) (j + 1) (ni + 1) nl 0) (vec5 (zsV (kUs ls n ta 0 (j + 1))) (zsV (kUs ls n ta 1 (j + 1))) (zsV (kIn ls n ta al be gi (ni + 1))) X3 [])) := by rw [HXI.out]; exact (by have h := HSn; rw [set5_2, set5_2, set5_2] at h; exact h)
          generalize (yb.setCell ⟨W.heap.size, 2, none⟩ (.slice na (ni + 1) nc)) = Y3 at HSE ⊢
          clear HSn hbm hown' hgrow hat hcy hfy hrow hqa2 HSa HSz hqu hba HS6
          rw [← HX3.out] at HSE
          go_wp2
          go_roundw
          case rel => exact ⟨j + 1, ni + 1, nl, _, _, _, _, by go_num, hlt, ⟨by have := HN.out; omega, by have := HN.out; omega⟩, HSE⟩
          case measure => simp [intOf]; omega
        · have hjp' : ¬ (j : Int) ≤ (p : Int) := by omega
          go_wp2_with fail
          clear qp
          have HXL : Hid (zsV (kLs ls n p ta al be di (nl + 1)) = X3 ++ [.int .i64 (kBy ls n ta al be di j)]) := by
            show _ = _
            have h := zsV_zls (fun i => kBy ls n ta al be di (p + 1 + i)) nl
            rw [show p + 1 + nl = j by have := HN.out; omega] at h
            rw [← HX3.out]
            exact h
          generalize kBy ls n ta al be di j = xg at CDl HXL
          have hba : Blk Y2 W.heap.size 85 #[nvY1, nvY2, v2, v3, (.slice none 0 0)] := HS6.out.blk
          obtain ⟨fa, fc, hfv⟩ := row_form (HS6.out.row.row 3 (by decide))
          replace hfv : v3 = .slice fa nl fc := hfv
          have hm63 : nl + 1 ≤ maxLen := by unfold maxLen; omega
          have hm47 : (nl + 1) * 8 ≤ 140737488355328 := by omega
          subst hfv
          refine wp_region_last [(0, false), (1, false), (2, false), (3, false), (4, true), (5, true), (6, true), (7, false)] 8 (fun wz => Blk wz W.heap.size 85 #[nvY1, nvY2, v2, (.slice fa nl fc), (.slice none 0 0)]) mixesSc (by kernel_rfl) hba.drew ?_
          repeat (refine ord_float rfl rfl (fun K hK => ⟨_, (fun w' hw => by have q0 := hw.cell 3; go_simp; exact rfl), ?_⟩); go_simp; refine hK _ ?_; clear hK K)
          refine ord_call rfl rfl (fun K hK => ⟨_, _, (by go_simp <;> first | exact rfl | exact ⟨rfl, rfl⟩), ?_⟩)
          refine (CDl.out _).mono ?_
          rintro e z0 ⟨rfl, hz0e⟩
          have hqu : Blk z0 W.heap.size 85 #[nvY1, nvY2, v2, (.slice fa nl fc), (.slice none 0 0)] := hz0e ▸ hba.drew
          refine ⟨_, rfl, hqu, ?_⟩
          go_simp
          refine hK _ _ ?_
          clear hK K
          repeat (refine ord_float rfl rfl (fun K hK => ⟨_, (fun w' hw => by have q0 := hw.cell 3; go_simp; exact rfl), ?_⟩); go_simp; refine hK _ ?_; clear hK K)
          have HSz : St 3 1 85 W.heap.size w5 z0 (vec5 nvY1 nvY2 v2 (.slice fa nl fc) (.slice none 0 0)) (vec5 (j + 1) (j + 1) ni nl 0) (vec5 (zsV (kUs ls n ta 0 (j + 1))) (zsV (kUs ls n ta 1 (j + 1))) X2 X3 []) := hz0e ▸ HS6.out.below (Below.refl _ _).drew
          have HSa := HSz.alloc (.cells #[.int .i64 xg] 3)
          have hqa2 : Blk (z0.alloc (.cells #[.int .i64 xg] 3)) W.heap.size 85 #[nvY1, nvY2, v2, (.slice fa nl fc), (.slice none 0 0)] := HSa.blk
          refine ord_op rfl rfl (fun K hK => ⟨.slice (some ⟨z0.heap.size, 0, none⟩) 1 1, (z0.alloc (.cells #[.int .i64 xg] 3)), (by go_simp <;> rfl), hqa2, ?_⟩)
          go_simp
          refine hK _ _ ?_
          clear hK K
          have hrow : (z0.alloc (.cells #[.int .i64 xg] 3)).ownsRow w5.heap.size 3 1 (.slice fa nl fc) nl X3 := HSa.row.row 3 (by decide)
          refine ord_append rfl rfl _ _ 27 rfl w5.heap.size 3 i0 (.int .i64 0) 1 8 Tryz.underlying27 hi hz0 hz1 hz2 rfl (by decide) _ _ _ rfl hrow ⟨z0.heap.size, 0, none⟩ 1 1 [.int .i64 xg] rfl rfl (cell_one_new _ _ _) (one_cell _ _) hm63 hm47 HSa.kps.size ?_
          intro nv yb hown' hgrow hat
          have hbm : Blk yb W.heap.size 85 #[nvY1, nvY2, v2, (.slice fa nl fc), (.slice none 0 0)] := HSa.mid 3 (by decide) hgrow
          refine ⟨hbm, fun K hK => ?_⟩
          go_simp
          refine hK _ ?_
          clear hK K
          repeat (refine ord_float rfl rfl (fun K hK => ⟨_, (fun w' hw => by have q0 := hw.cell 3; go_simp; exact rfl), ?_⟩); go_simp; refine hK _ ?_; clear hK K)
          refine ord_nil ?_
          have HSn := HSa.step 3 (by decide) hown' hgrow hat
          obtain ⟨na, nc, hnv⟩ := row_form hown'
          subst hnv
          have hcy := hbm.cell 3
          have hfy := hbm.free 3
          refine last_store rfl rfl rfl (yb.setCell ⟨W.heap.size, 3, none⟩ (.slice na (nl + 1) nc)) (by go_simp <;> rfl) ?_
          have HSE : Hid (St 3 1 85 W.heap.size w5 (yb.setCell ⟨W.heap.size, 3, none⟩ (.slice na (nl + 1) nc)) (vec5 nvY1 nvY2 v2 (.slice na (nl + 1) nc) (.slice none 0 0)) (vec5 (j + 1) (j + 1) ni (nl + 1) 0) (vec5 (zsV (kUs ls n ta 0 (j + 1))) (zsV (kUs ls n ta 1 (j + 1))) X2 (zsV (kLs ls n p ta al be di (nl + 1))) [])) := by rw [HXL.out]; exact (by have h := HSn; rw [set5_3, set5_3, set5_3] at h; exact h)
          generalize (yb.setCell ⟨W.heap.size, 3, none⟩ (.slice na (nl + 1) nc)) = Y3 at HSE ⊢
          clear HSn hbm hown' hgrow hat hcy hfy hrow hqa2 HSa HSz hqu hba HS6
          rw [← HX2.out] at HSE
          go_wp2
          go_roundw
          case rel => exact ⟨j + 1, ni, nl + 1, _, _, _, _, by go_num, hlt, ⟨by have := HN.out; omega, by have := HN.out; omega⟩, HSE⟩
          case measure => simp [intOf]; omega
      · have hlt' : ¬ (j : Int) < (wn : Int) := by omega
        have ejw : j = wn := by omega
        have eni : ni = p + 1 := by have := HN.out; omega
        have enl : nl = wn - p - 1 := by have := HN.out; omega
        subst ejw eni enl
        clear HN hKr hqa
        generalize wr = w6 at *
        -- the powers of Tau
        have CZ : Hid (∀ V, Calls Tryz.prog 125 #[.int .i64 (n : Int)] V fun e w' => ∃ u, e = .returned u ∧ ZOwn V.heap.size w'.heap.size w' u (zerL n) ∧ Below V.heap.size V w') := fun V => by
          have h := iZer_any (n : Int) V
          rw [pZer_nat hn16] at h
          exact h
        have CM : Hid (∀ V, Calls Tryz.prog 56 #[.int .i64 (pAt (zerL n) ta), .int .i64 di] V fun e w' => e = .returned (.int .i64 (kZ n ta di 0)) ∧ V = w') := iScMul_any _ _
        have HZL : Hid ((zerL n).length ≤ 1048576) := zerL_len n
        have CA : Hid (∀ v X, ZAt X X.heap.size v (zerL n) → Calls Tryz.prog 124 #[v, .int .i64 ta] X fun e w' => e = .returned (.int .i64 (pAt (zerL n) ta)) ∧ Below X.heap.size X w') := fun v X h => iAt_any v _ ta HZL.out X h
        go_wp2_with fail
        have T0 : Below w6.heap.size w6 w6.drew := (Below.refl _ _).drew
        refine wp_region_ord [(0, false), (1, false), (2, false), (4, false), (5, false), (7, false), (3, true), (6, true), (8, true), (9, false)] (fun wz => Below w6.heap.size w6 wz) mixesSc (by kernel_rfl) T0 ?_
        repeat (refine ord_float rfl rfl (fun K hK => ⟨_, (fun w' hw => by have q0 := (hsy.on hw hsy.lt).cell 2; have q1 :=  (htx.on hw htx.lt).cell 0; go_simp; exact rfl), ?_⟩); go_simp; refine hK _ ?_; clear hK K)
        refine ord_call rfl rfl (fun K hK => ⟨_, _, (by go_simp <;> first | exact rfl | exact ⟨rfl, rfl⟩), ?_⟩)
        refine (CZ.out _).mono ?_
        rintro e u1 ⟨zv, rfl, hZO, hu1⟩
        have T1 := below_then T0 hu1
        refine ⟨_, rfl, T1, ?_⟩
        go_simp
        refine hK _ _ ?_
        clear hK K
        have hZA := hZO.at
        obtain ⟨za, zc, hzv⟩ := row_form hZO.1
        subst hzv
        refine ord_call rfl rfl (fun K hK => ⟨_, _, (by go_simp <;> first | exact rfl | exact ⟨rfl, rfl⟩), ?_⟩)
        refine (CA.out _ _ hZA).mono ?_
        rintro e u2 ⟨rfl, hu2⟩
        have T2 := below_then T1 hu2
        refine ⟨_, rfl, T2, ?_⟩
        go_simp
        refine hK _ _ ?_
        clear hK K
        refine ord_call rfl rfl (fun K hK => ⟨_, _, (by go_simp <;> first | exact rfl | exact ⟨rfl, rfl⟩), ?_⟩)
        refine (CM.out _).mono ?_
        rintro e u3 ⟨rfl, hu3⟩
        have T3 : Below w6.heap.size w6 u3 := hu3 ▸ T2
        refine ⟨_, rfl, T3, ?_⟩
        go_simp
        refine hK _ _ ?_
        clear hK K
        repeat (refine ord_float rfl rfl (fun K hK => ⟨_, (fun w' hw => by have q0 := (hsy.on hw hsy.lt).cell 2; have q1 :=  (htx.on hw htx.lt).cell 0; go_simp; exact rfl), ?_⟩); go_simp; refine hK _ ?_; clear hK K)
        refine ord_nil ?_
        have HS7 : Hid (St 3 1 85 W.heap.size w5 u3 (vec5 v0 v1 v2 v3 (.slice none 0 0)) (vec5 j j (p + 1) (j - p - 1) 0) (vec5 (zsV (kUs ls n ta 0 j)) (zsV (kUs ls n ta 1 j)) (zsV (kIn ls n ta al be gi (p + 1))) (zsV (kLs ls n p ta al be di (j - p - 1))) (zsV (kZs n ta di 0)))) := HS.out.below T3
        have hsy3 := hsy.on T3 hsy.lt
        have qs : u3.cell? ⟨w.heap.size + 1, 2, none⟩ = some (.slice a n c) := hsy3.cell 2
        obtain ⟨n1, hn1e⟩ : ∃ n1, n1 = n - 1 := ⟨_, rfl⟩
        have hnn : (n : Int) - 1 = (n1 : Int) := by omega
        have hnw : IntKind.i64.wrap (n1 : Int) = (n1 : Int) := IntWalk.i64_in _ (by omega)
        rw [← hn1e] at HEnd
        have hn15 : n1 ≤ 15 := by omega
        have HMZ : Hid (∀ i V, Calls Tryz.prog 56 #[.int .i64 (kZ n ta di i), .int .i64 ta] V fun e w' => e = .returned (.int .i64 (kZ n ta di (i + 1))) ∧ V = w') := fun i V => iScMul_any _ _ V
        have HKZ : Hid (∀ i, zsV (kZs n ta di (i + 1)) = zsV (kZs n ta di i) ++ [.int .i64 (kZ n ta di i)]) := fun i => zsV_zls _ _
        clear HS hsy3 T0 T1 T2 T3 hu1 hu2 hu3 hsy htx CZ CM CA hZO hZA hn1e HT5
        generalize hx0 : zsV (kUs ls n ta 0 j) = X0 at HS7 HEnd
        generalize hx1 : zsV (kUs ls n ta 1 j) = X1 at HS7 HEnd
        generalize hx2 : zsV (kIn ls n ta al be gi (p + 1)) = X2 at HS7 HEnd
        generalize hx3 : zsV (kLs ls n p ta al be di (j - p - 1)) = X3 at HS7 HEnd
        clear hx0 hx1 hx2 hx3
        go_wp2
        clear qs
        go_loopw [16, 119] (fun pv_ iv wr => ∃ (i : Nat) (v4 : Value), pv_ = .int .i64 (kZ n ta di i) ∧ iv = .int .i64 (i : Int) ∧ i ≤ n1 ∧ Hid (St 3 1 85 W.heap.size w5 wr (vec5 v0 v1 v2 v3 v4) (vec5 j j (p + 1) (j - p - 1) i) (vec5 X0 X1 X2 X3 (zsV (kZs n ta di i))))) (fun _ iv _ => n1 - (intOf iv).toNat)
        case atStart => exact ⟨0, _, rfl, rfl, Nat.zero_le _, HS7⟩
        case round =>
          obtain ⟨i, v4, rfl, rfl, hi4, HS8⟩ := hrel
          clear HS7
          generalize wr = Y1 at *
          by_cases hlz : i < n1
          · have hlz' : (i : Int) < (n1 : Int) := by omega
            have htx8 : Blk Y1 w.heap.size 31 #[.int .i64 ta, .int .i64 al, .int .i64 be, .int .i64 ga, .int .i64 de] := HS8.out.kps.blk H5.out.2.1 (by omega)
            have CM8 : Hid (∀ V, Calls Tryz.prog 56 #[.int .i64 (kZ n ta di i), .int .i64 ta] V fun e w' => e = .returned (.int .i64 (kZ n ta di (i + 1))) ∧ V = w') := HMZ.out i
            have HX4 := HKZ.out i
            have HXX : Hid (zsV (kZs n ta di (i + 1)) = zsV (kZs n ta di i) ++ [.int .i64 (kZ n ta di i)]) := HX4
            clear HX4
            obtain ⟨z2, hz2⟩ : ∃ z2, z2 = kZ n ta di (i + 1) := ⟨_, rfl⟩
            have HZ2 : Hid (z2 = kZ n ta di (i + 1)) := hz2
            rw [← hz2] at CM8
            clear hz2
            generalize kZ n ta di i = z1 at CM8 HXX ⊢
            generalize hx4 : zsV (kZs n ta di i) = X4 at HS8 HXX
            clear hx4
            have hba : Blk Y1 W.heap.size 85 #[v0, v1, v2, v3, v4] := HS8.out.blk
            have qa : Y1.cell? ⟨W.heap.size, 4, none⟩ = some v4 := hba.cell 4
            obtain ⟨fa, fc, hfv⟩ := row_form (HS8.out.row.row 4 (by decide))
            replace hfv : v4 = .slice fa i fc := hfv
            have HSa := HS8.out.alloc (.cells #[.int .i64 z1] 3)
            have hrow : (Y1.alloc (.cells #[.int .i64 z1] 3)).ownsRow w5.heap.size 3 1 (.slice fa i fc) i X4 := by have h := HSa.row.row 4 (by decide); rw [← hfv]; exact h
            have hroom : w5.heap.size ≤ (Y1.alloc (.cells #[.int .i64 z1] 3)).heap.size := HSa.kps.size
            have hm63 : i + 1 ≤ maxLen := by unfold maxLen; omega
            have hm47 : (i + 1) * 8 ≤ 140737488355328 := by omega
            rw [hfv] at qa
            clear hba
            go_wp2_with (at_builtin; refine wpList_append_own_at _ rfl _ _ 27 rfl w5.heap.size 3 i0 (.int .i64 0) 1 8 Tryz.underlying27 hi hz0 hz1 hz2 rfl (by decide) _ _ _ rfl hrow ⟨Y1.heap.size, 0, none⟩ 1 1 [.int .i64 z1] rfl rfl (cell_one_new _ _ _) (one_cell _ _) hm63 hm47 hroom ?_)
            intro nv yb hown' hgrow _ hat
            rw [← hfv] at hgrow hat
            have hbm : Blk yb W.heap.size 85 #[v0, v1, v2, v3, v4] := HSa.mid 4 (by decide) hgrow
            have HSn := HSa.step 4 (by decide) hown' hgrow (hat.imp id fun h => h.trans (by simp))
            obtain ⟨na, nc, hnv⟩ := row_form hown'
            subst hnv
            clear qa hm63 hm47 hroom hrow
            go_wp2_with (refine store_fieldZ rfl rfl rfl (i := 4) rfl rfl hbm rfl ?_)
            intro Y2 hY2
            have HS9 : Hid (St 3 1 85 W.heap.size w5 Y2 (vec5 v0 v1 v2 v3 (.slice na (i + 1) nc)) (vec5 j j (p + 1) (j - p - 1) (i + 1)) (vec5 X0 X1 X2 X3 (zsV (kZs n ta di (i + 1))))) := by rw [hY2, HXX.out]; exact (HSn.like (set5_4 _ _ _ _ _ _) (set5_4 _ _ _ _ _ _) (set5_4 _ _ _ _ _ _))
            clear hY2 HSn HSa hbm hown' hgrow hat HS8 hfv
            generalize hqY2 : (Value.slice na (i + 1) nc) = nvY2 at HS9
            clear hqY2
            have htx9 : Blk Y2 w.heap.size 31 #[.int .i64 ta, .int .i64 al, .int .i64 be, .int .i64 ga, .int .i64 de] := HS9.out.kps.blk H5.out.2.1 (by omega)
            have q0 : Y2.cell? ⟨w.heap.size, 0, none⟩ = some (.int .i64 ta) := htx9.cell 0
            go_wp2_with (go_at_call 56; refine (CM8.out _).mono ?_; rintro e wz ⟨rfl, rfl⟩)
            go_roundw
            case rel => exact ⟨i + 1, _, by rw [HZ2.out], by go_num, hlz, HS9⟩
            case measure => simp [intOf]; omega
          · have hlz' : ¬ (i : Int) < (n1 : Int) := by omega
            have ei : i = n1 := by omega
            subst ei
            have hres : Blk Y1 (w.heap.size + 1 + 1) 85 #[.slice none 0 0, .slice none 0 0, .slice none 0 0, .slice none 0 0, .slice none 0 0] := HS8.out.kps.blk H5.out.2.2.2.1 (by omega)
            have hBw : Below w.heap.size w Y1 := HS8.out.kps.bel H5.out.1 H5.out.1.size (fun k e => by omega)
            have hsw : w.heap.size ≤ w5.heap.size := H5.out.1.size
            obtain ⟨f0, c0, hf0⟩ := row_form (HS8.out.row.row 0 (by decide))
            replace hf0 : v0 = .slice f0 j c0 := hf0
            obtain ⟨f1, c1, hf1⟩ := row_form (HS8.out.row.row 1 (by decide))
            replace hf1 : v1 = .slice f1 j c1 := hf1
            obtain ⟨f2, c2, hf2⟩ := row_form (HS8.out.row.row 2 (by decide))
            replace hf2 : v2 = .slice f2 (p + 1) c2 := hf2
            obtain ⟨f3, c3, hf3⟩ := row_form (HS8.out.row.row 3 (by decide))
            replace hf3 : v3 = .slice f3 (j - p - 1) c3 := hf3
            obtain ⟨f4, c4, hf4⟩ := row_form (HS8.out.row.row 4 (by decide))
            replace hf4 : v4 = .slice f4 i c4 := hf4
            subst hf0 hf1 hf2 hf3 hf4
            have hq : Blk Y1 W.heap.size 85 #[.slice f0 j c0, .slice f1 j c1, .slice f2 (p + 1) c2, .slice f3 (j - p - 1) c3, .slice f4 i c4] := HS8.out.blk
            go_wp2_with (first | (refine load_blk rfl rfl rfl hq Tryz.underlying85 infoMu ?_) | (refine store_blkS (cs' := #[.slice f0 j c0, .slice f1 j c1, .slice f2 (p + 1) c2, .slice f3 (j - p - 1) c3, .slice f4 i c4]) rfl rfl rfl rfl rfl hres infoMu rfl (ones5s _ _ _ _ _ _ _ _ _ _ _ _ _ _ _) ?_; intro V8 h8 hheap hoth hbel; have hb8 := hbel _ _ (by omega) hBw; have hb9 := hbel 0 Y1 (Nat.zero_le _) (Below.refl _ _); clear hoth hbel))
            refine bodyPost_ret_by (result_Btmp rfl rfl rfl h8 Tryz.underlying85 infoMu) rfl (HEnd.out _ _ ⟨_, _, _, _, _, rfl, ?_, hb8⟩)
            exact (HS8.out.row.kept (S := fun k => k = w.heap.size + 1 + 1) ⟨hb9.os, hb9.tape, hb9.output, hb9.size, fun k _ hne => hheap k hne⟩ (fun k hk e => by omega)).low hsw

end Go.Proofs.YthnahalboomkoaaGreat
