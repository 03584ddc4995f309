/-
  The walk of the specification's keys.
  (-DROP-: what the seat lacks is left out.)
-/
import Derived.Test.YthnahalboomkoaaGreatPrfFkS
import Derived.Test.YthnahalboomkoaaGreatJoined22
import Derived.Test.YthnahalboomkoaaGreatJoined12

namespace Go.Proofs.YthnahalboomkoaaGreat
open Go.RowKit

theorem infoMkS : (Tryz.prog.info? 40).map (·.size) = some 17 := by kernel_rfl
/-- What is made of what a wire is. -/
def sFldM (f : Nat → Int) (k : Nat) : List Value := ptsV (gxL (zls f k))
theorem sFldM_next (f : Nat → Int) (k : Nat) : sFldM f (k + 1) = sFldM f k ++ [.int .i64 (gx (f k)).1, .int .i64 (gx (f k)).2.1, .bool (gx (f k)).2.2] := gxV_zls f k

set_option maxHeartbeats 25600000 in
set_option maxRecDepth 100000 in
theorem sMake_any (wi pu : Int) (hwf : (Lit.int .i64 wi).wf = true) (a : Option Addr) (n c : Nat) (hn : n ≤ 9223372036854775807) (ls : List (List Int)) (hz : ∀ j, (ls.getD j []).length ≤ 9223372036854775807) (ta al be ga de : Int) (w : World) (hA : NAt 3 w w.heap.size (.slice a n c) n ls) :
    Calls Tryz.prog 23 #[.agg #[.int .i64 wi, .int .i64 pu, .slice a n c], .agg #[.int .i64 ta, .int .i64 al, .int .i64 be, .int .i64 ga, .int .i64 de]] w fun e w' => MkEnd w wi pu n ls ta al be ga de e w' := by
  obtain ⟨i0, hi, hz0, hz1, hz2⟩ := info_parts infoPz
  obtain ⟨W, hW, hb, hs, hr, ho⟩ := boxes2r w 26 31 40 #[.int .i64 wi, .int .i64 pu, .slice a n c] #[.int .i64 ta, .int .i64 al, .int .i64 be, .int .i64 ga, .int .i64 de] #[.int .i64 0, .int .i64 0, .bool false, .int .i64 0, .int .i64 0, .bool false, .int .i64 0, .int .i64 0, .bool false, .int .i64 0, .int .i64 0, .bool false, .slice none 0 0, .slice none 0 0, .slice none 0 0, .slice none 0 0, .slice none 0 0]
  have CT : Hid (∀ V, Below w.heap.size w V → Calls Tryz.prog 77 #[.agg #[.int .i64 wi, .int .i64 pu, .slice a n c], .agg #[.int .i64 ta, .int .i64 al, .int .i64 be, .int .i64 ga, .int .i64 de]] V fun e w' => e = .returned (.bool (toxB wi pu n ls ta al be ga de)) ∧ Below V.heap.size V w') := fun V hV => sToxic_any wi pu hwf a n c hn ls hz ta al be ga de V ((hA.on hV).wide hV.size)
  have CQ : Hid (∀ V, Below w.heap.size w V → Calls Tryz.prog 78 #[.agg #[.int .i64 wi, .int .i64 pu, .slice a n c]] V fun e w' => QapEnd V wi pu n ls e w') := fun V hV => sQapOf_any wi pu hwf a n c hn ls hz V ((hA.on hV).wide hV.size)
  have H0 : Hid (Below w.heap.size w W ∧ Blk W w.heap.size 26 #[.int .i64 wi, .int .i64 pu, .slice a n c] ∧ Blk W (w.heap.size + 1) 31 #[.int .i64 ta, .int .i64 al, .int .i64 be, .int .i64 ga, .int .i64 de] ∧ Blk W (w.heap.size + 1 + 1) 40 #[.int .i64 0, .int .i64 0, .bool false, .int .i64 0, .int .i64 0, .bool false, .int .i64 0, .int .i64 0, .bool false, .int .i64 0, .int .i64 0, .bool false, .slice none 0 0, .slice none 0 0, .slice none 0 0, .slice none 0 0, .slice none 0 0]) := ⟨hb, hs, hr, ho⟩
  have hs1 : w.heap.size + 1 + 1 < W.heap.size := ho.lt
  clear hA hb hz ho hn hwf
  go_enter Tryz.func23, Tryz.ntmps23
  go_wp2_with (first | (refine load_blk rfl rfl rfl hs Tryz.underlying26 infoSy ?_) | (refine load_blk rfl rfl rfl hr Tryz.underlying31 infoTxF ?_))
  clear hW hs hr
  refine (CT.out _ H0.out.1).mono ?_
  rintro e w1 ⟨rfl, hb1⟩
  have hB1 := H0.out.1.trans (hb1.mono H0.out.1.size)
  have hy1 := H0.out.2.1.on hb1 H0.out.2.1.lt
  have ht1 := H0.out.2.2.1.on hb1 H0.out.2.2.1.lt
  have hm1 := H0.out.2.2.2.on hb1 H0.out.2.2.2.lt
  have hs2 : w.heap.size + 1 + 1 < w1.heap.size := hm1.lt
  clear H0 hb1 hs1 CT
  cases hok : toxB wi pu n ls ta al be ga de
  · skip
    go_wp2_with (refine store_blkS (cs' := #[.int .i64 0, .int .i64 0, .bool false, .int .i64 0, .int .i64 0, .bool false, .int .i64 0, .int .i64 0, .bool false, .int .i64 0, .int .i64 0, .bool false, .slice none 0 0, .slice none 0 0, .slice none 0 0, .slice none 0 0, .slice none 0 0]) rfl rfl rfl rfl rfl hm1 infoMkS rfl onesMk0 ?_; intro V8 h8 hheap hoth hbel; have hb8 := hbel _ _ (by omega) hB1; clear hoth hbel hheap)
    refine bodyPost_ret_by (result_Btmp rfl rfl rfl h8 Tryz.underlying40 infoMkS) rfl (.inl ⟨hok, rfl, hb8⟩)
  · have HOK : Hid (toxB wi pu n ls ta al be ga de = true) := hok
    obtain ⟨hso, hTx⟩ := tox_iff.1 hok
    have hS := sides_of hso
    obtain ⟨wn, hwn⟩ : ∃ wn, wn = wi.toNat := ⟨_, rfl⟩
    obtain ⟨p, hp⟩ : ∃ p, p = pu.toNat := ⟨_, rfl⟩
    have HEnd : Hid (∀ e w', (∃ U V I L Z, e = .returned (.tuple #[.agg (mkC (gx al) (gx be) (gx ga) (gx de) I U V L Z), .bool true]) ∧ RowF 35 3 w.heap.size w' (vec5 U V I L Z) (vec5 wn wn (p + 1) (wn - p - 1) (n - 1)) (vec5 (sFldM (kW ls n ta 0) wn) (sFldM (kW ls n ta 1) wn) (sFldM (kBy ls n ta al be (scInv ga)) (p + 1)) (sFldM (fun j => kBy ls n ta al be (scInv de) (p + 1 + j)) (wn - p - 1)) (sFldM (kZ n ta (scInv de)) (n - 1))) ∧ Below w.heap.size w w') → MkEnd w wi pu n ls ta al be ga de e w') := fun e w' h => .inr ⟨hok, by rw [hwn, hp] at h; exact h⟩
    rw [← hwn, ← hp] at hS
    have hw20 : wn ≤ 20 := hS.one.2
    have hw1 : 1 ≤ wn := hS.one.1
    have hpw : p + 1 ≤ wn := hS.told
    have hn1 : 1 ≤ n := hS.rows.1
    have hn16 : n ≤ 16 := hS.rows.2
    have HEW : Hid (wi = (wn : Int) ∧ pu = (p : Int)) := ⟨hS.wi, hS.pu⟩
    have HSO : Hid (sysOk wi pu n ls = true) := hso
    have HWN : Hid (wi.toNat = wn) := hwn.symm
    clear hok hso hTx hS hwn hp HOK
    -- the polynomials
    go_wp2_with (refine load_blk rfl rfl rfl hy1 Tryz.underlying26 infoSy ?_)
    refine (CQ.out _ hB1).mono ?_
    rintro e w2 (⟨h0, _⟩ | ⟨_, U, V, X, us, vs, xs, rfl, hTri, hb2⟩)
    · rw [HSO.out] at h0; cases h0
    rw [HWN.out] at hTri
    obtain ⟨ewi, epu⟩ := HEW.out
    clear HEW
    subst ewi epu
    obtain ⟨ua, uc, hUv⟩ := row_form hTri.u.row
    obtain ⟨va, vc, hVv⟩ := row_form hTri.v.row
    obtain ⟨xa, xc, hXv⟩ := row_form hTri.x.row
    subst hUv hVv hXv
    have hs21 : w1.heap.size ≤ w2.heap.size := hb2.size
    obtain ⟨V0, hV0, hb0, hs0⟩ := box1 w2 122 #[.slice none 0 0, .slice none 0 0, .slice none 0 0]
    go_wp2_with (refine store_blkS (cs' := #[.slice ua wn uc, .slice va wn vc, .slice xa wn xc]) rfl rfl rfl rfl rfl hs0 infoQa rfl (onesQa _ _ _ _ _ _ _ _ _) ?_; intro w3 hq3 hheap hoth hbel; have hb3 := hbel _ _ (Nat.le_refl _) hb0; clear hoth hbel hheap)
    have hs3 : w2.heap.size < w3.heap.size := hq3.lt
    have hb13 : Below w1.heap.size w1 w3 := hb2.trans (hb3.mono hs21)
    have HT3 : Hid (Tri 27 w1.heap.size w2.heap.size w3 (.slice ua wn uc) wn us (qapN ls n 0 wn) (.slice va wn vc) wn vs (qapN ls n 1 wn) (.slice xa wn xc) wn xs (qapN ls n 2 wn)) := hTri.same (Same.of_below hb3 (Nat.le_refl _))
    have H3 : Hid (Below w.heap.size w w3 ∧ Blk w3 (w.heap.size + 1) 31 #[.int .i64 ta, .int .i64 al, .int .i64 be, .int .i64 ga, .int .i64 de] ∧ Blk w3 w.heap.size 26 #[.int .i64 (wn : Int), .int .i64 (p : Int), .slice a n c] ∧ Blk w3 (w.heap.size + 1 + 1) 40 #[.int .i64 0, .int .i64 0, .bool false, .int .i64 0, .int .i64 0, .bool false, .int .i64 0, .int .i64 0, .bool false, .int .i64 0, .int .i64 0, .bool false, .slice none 0 0, .slice none 0 0, .slice none 0 0, .slice none 0 0, .slice none 0 0] ∧ Blk w3 w2.heap.size 122 #[.slice ua wn uc, .slice va wn vc, .slice xa wn xc]) := ⟨hB1.trans (hb13.mono hB1.size), ht1.on hb13 ht1.lt, hy1.on hb13 hy1.lt, hm1.on hb13 hm1.lt, hq3⟩
    clear hTri hb2 hb3 hq3 hV0 hb0 hs0 hy1 ht1 hm1 hB1 CQ hb13 HSO HWN
    -- the first keys
    have K1 : Hid (∀ V, Calls Tryz.prog 79 #[.int .i64 al] V fun e w' => e = .returned (.agg #[.int .i64 (gx al).1, .int .i64 (gx al).2.1, .bool (gx al).2.2]) ∧ Below V.heap.size V w') := fun V => by have h := sKey_any al V; rw [gx_key] at h; exact h
    have K2 : Hid (∀ V, Calls Tryz.prog 79 #[.int .i64 be] V fun e w' => e = .returned (.agg #[.int .i64 (gx be).1, .int .i64 (gx be).2.1, .bool (gx be).2.2]) ∧ Below V.heap.size V w') := fun V => by have h := sKey_any be V; rw [gx_key] at h; exact h
    have K3 : Hid (∀ V, Calls Tryz.prog 79 #[.int .i64 ga] V fun e w' => e = .returned (.agg #[.int .i64 (gx ga).1, .int .i64 (gx ga).2.1, .bool (gx ga).2.2]) ∧ Below V.heap.size V w') := fun V => by have h := sKey_any ga V; rw [gx_key] at h; exact h
    have K4 : Hid (∀ V, Calls Tryz.prog 79 #[.int .i64 de] V fun e w' => e = .returned (.agg #[.int .i64 (gx de).1, .int .i64 (gx de).2.1, .bool (gx de).2.2]) ∧ Below V.heap.size V w') := fun V => by have h := sKey_any de V; rw [gx_key] at h; exact h
    generalize gx al = A at K1 HEnd
    generalize gx be = B at K2 HEnd
    generalize gx ga = G at K3 HEnd
    generalize gx de = D at K4 HEnd
    have htx := H3.out.2.1
    go_wp2_with fail
    refine wp_region_made 14 mixes (by kernel_rfl) rfl rfl (fun a w => by go_simp <;> rfl) ?_
    simp only [List.take_succ_cons, List.take_zero, List.drop_succ_cons, List.drop_zero]
    repeat (refine bel_step rfl (fun K hK => ⟨_, (fun w' hw => by have q0 := (htx.on hw htx.lt).cell 0; have q1 := (htx.on hw htx.lt).cell 1; have q2 := (htx.on hw htx.lt).cell 2; have q3 := (htx.on hw htx.lt).cell 3; have q4 := (htx.on hw htx.lt).cell 4; go_simp; exact rfl), ?_⟩); go_simp; refine hK _ ?_; clear hK K)
    refine bel_call rfl (fun K hK => ⟨_, _, _, (fun w' => by go_simp <;> first | exact rfl | exact ⟨rfl, rfl⟩), (fun w' hw => K1.out _), ?_⟩); go_simp; refine hK _ ?_; clear hK K
    repeat (refine bel_step rfl (fun K hK => ⟨_, (fun w' hw => by have q0 := (htx.on hw htx.lt).cell 0; have q1 := (htx.on hw htx.lt).cell 1; have q2 := (htx.on hw htx.lt).cell 2; have q3 := (htx.on hw htx.lt).cell 3; have q4 := (htx.on hw htx.lt).cell 4; go_simp; exact rfl), ?_⟩); go_simp; refine hK _ ?_; clear hK K)
    refine bel_call rfl (fun K hK => ⟨_, _, _, (fun w' => by go_simp <;> first | exact rfl | exact ⟨rfl, rfl⟩), (fun w' hw => K2.out _), ?_⟩); go_simp; refine hK _ ?_; clear hK K
    repeat (refine bel_step rfl (fun K hK => ⟨_, (fun w' hw => by have q0 := (htx.on hw htx.lt).cell 0; have q1 := (htx.on hw htx.lt).cell 1; have q2 := (htx.on hw htx.lt).cell 2; have q3 := (htx.on hw htx.lt).cell 3; have q4 := (htx.on hw htx.lt).cell 4; go_simp; exact rfl), ?_⟩); go_simp; refine hK _ ?_; clear hK K)
    refine bel_call rfl (fun K hK => ⟨_, _, _, (fun w' => by go_simp <;> first | exact rfl | exact ⟨rfl, rfl⟩), (fun w' hw => K3.out _), ?_⟩); go_simp; refine hK _ ?_; clear hK K
    repeat (refine bel_step rfl (fun K hK => ⟨_, (fun w' hw => by have q0 := (htx.on hw htx.lt).cell 0; have q1 := (htx.on hw htx.lt).cell 1; have q2 := (htx.on hw htx.lt).cell 2; have q3 := (htx.on hw htx.lt).cell 3; have q4 := (htx.on hw htx.lt).cell 4; go_simp; exact rfl), ?_⟩); go_simp; refine hK _ ?_; clear hK K)
    refine bel_call rfl (fun K hK => ⟨_, _, _, (fun w' => by go_simp <;> first | exact rfl | exact ⟨rfl, rfl⟩), (fun w' hw => K4.out _), ?_⟩); go_simp; refine hK _ ?_; clear hK K
    repeat (refine bel_step rfl (fun K hK => ⟨_, (fun w' hw => by have q0 := (htx.on hw htx.lt).cell 0; have q1 := (htx.on hw htx.lt).cell 1; have q2 := (htx.on hw htx.lt).cell 2; have q3 := (htx.on hw htx.lt).cell 3; have q4 := (htx.on hw htx.lt).cell 4; go_simp; exact rfl), ?_⟩); go_simp; refine hK _ ?_; clear hK K)
    refine bel_nil ?_
    intro gn w' hw hgn hnew
    refine frame_out fun K hK => ?_
    go_simp
    refine hK _ ?_
    clear hK K
    refine store_blkS (cs' := #[.int .i64 A.1, .int .i64 A.2.1, .bool A.2.2, .int .i64 B.1, .int .i64 B.2.1, .bool B.2.2, .int .i64 G.1, .int .i64 G.2.1, .bool G.2.2, .int .i64 D.1, .int .i64 D.2.1, .bool D.2.2, (.slice none 0 0), (.slice none 0 0), (.slice none 0 0), (.slice none 0 0), (.slice none 0 0)]) rfl rfl rfl rfl rfl hnew infoMkS rfl (by simp [Value.oneCell']) ?_
    intro w5 hga hheap hoth hbel
    have hb5 : Below w3.heap.size w3 w5 := hbel _ _ (by omega) hw
    clear hoth hbel hheap hnew hw K1 K2 K3 K4 htx
    generalize gn = gO at *
    have hgO : gO < w5.heap.size := hga.lt
    have H5 : Hid (Below w.heap.size w w5 ∧ Blk w5 (w.heap.size + 1) 31 #[.int .i64 ta, .int .i64 al, .int .i64 be, .int .i64 ga, .int .i64 de] ∧ Blk w5 w.heap.size 26 #[.int .i64 (wn : Int), .int .i64 (p : Int), .slice a n c] ∧ Blk w5 (w.heap.size + 1 + 1) 40 #[.int .i64 0, .int .i64 0, .bool false, .int .i64 0, .int .i64 0, .bool false, .int .i64 0, .int .i64 0, .bool false, .int .i64 0, .int .i64 0, .bool false, .slice none 0 0, .slice none 0 0, .slice none 0 0, .slice none 0 0, .slice none 0 0] ∧ Blk w5 w2.heap.size 122 #[.slice ua wn uc, .slice va wn vc, .slice xa wn xc]) := ⟨H3.out.1.trans (hb5.mono H3.out.1.size), H3.out.2.1.on hb5 H3.out.2.1.lt, H3.out.2.2.1.on hb5 H3.out.2.2.1.lt, H3.out.2.2.2.1.on hb5 H3.out.2.2.2.1.lt, H3.out.2.2.2.2.on hb5 H3.out.2.2.2.2.lt⟩
    have HT5 : Hid (Tri 27 w1.heap.size w2.heap.size w5 (.slice ua wn uc) wn us (qapN ls n 0 wn) (.slice va wn vc) wn vs (qapN ls n 1 wn) (.slice xa wn xc) wn xs (qapN ls n 2 wn)) := HT3.out.same (Same.of_below hb5 (by omega))
    have HS0 : Hid (StM 35 3 40 gO w5 w5 A B G D (vec5 (.slice none 0 0) (.slice none 0 0) (.slice none 0 0) (.slice none 0 0) (.slice none 0 0)) (vec5 0 0 0 0 0) (vec5 [] [] [] [] [])) := ⟨Kps.refl _ _, hga, rowF_nil _ _ _ _, hgO⟩
    have hs5 : w3.heap.size ≤ w5.heap.size := hb5.size
    clear H3 HT3 hb5 hga
    go_wp2_with fail
    go_loopw [9] (fun iv wr => ∃ (j ni nl : Nat) (v0 v1 v2 v3 : Value), iv = .int .i64 (j : Int) ∧ j ≤ wn ∧ Hid (ni = min j (p + 1) ∧ nl = j - (p + 1)) ∧ Hid (StM 35 3 40 gO w5 wr A B G D (vec5 v0 v1 v2 v3 (.slice none 0 0)) (vec5 j j ni nl 0) (vec5 (sFldM (kW ls n ta 0) j) (sFldM (kW ls n ta 1) j) (sFldM (kBy ls n ta al be (scInv ga)) ni) (sFldM (fun j => kBy ls n ta al be (scInv de) (p + 1 + j)) nl) []))) (fun iv _ => wn - (intOf iv).toNat)
    case atStart => exact ⟨0, 0, 0, _, _, _, _, rfl, Nat.zero_le _, ⟨by omega, by omega⟩, HS0⟩
    case round =>
      obtain ⟨j, ni, nl, v0, v1, v2, v3, rfl, hj, HN, HS⟩ := hrel
      clear HS0
      have hKr := HS.out.kps
      have hwr : w5.heap.size ≤ wr.heap.size := hKr.size
      have htx : Blk wr (w.heap.size + 1) 31 #[.int .i64 ta, .int .i64 al, .int .i64 be, .int .i64 ga, .int .i64 de] := hKr.blk H5.out.2.1 (by omega)
      have hsy : Blk wr w.heap.size 26 #[.int .i64 (wn : Int), .int .i64 (p : Int), .slice a n c] := hKr.blk H5.out.2.2.1 (by omega)
      have hqa : Blk wr w2.heap.size 122 #[.slice ua wn uc, .slice va wn vc, .slice xa wn xc] := hKr.blk H5.out.2.2.2.2 (by omega)
      have qw : wr.cell? ⟨w.heap.size, 0, none⟩ = some (.int .i64 (wn : Int)) := hsy.cell 0
      by_cases hlt : j < wn
      · have hlt' : (j : Int) < (wn : Int) := by omega
        have hj0 : (0 : Int) ≤ (j : Int) := by omega
        have hTr := HT5.out.same (Same.of_kps hKr (by omega) (fun k h1 h2 e => by omega))
        have CW : Hid (Calls Tryz.prog 80 #[.agg #[.slice ua wn uc, .slice va wn vc, .slice xa wn xc], .agg #[.int .i64 ta, .int .i64 al, .int .i64 be, .int .i64 ga, .int .i64 de], .int .i64 (j : Int)] wr fun e w' => e = .returned (.tuple #[.int .i64 (kW ls n ta 0 j), .int .i64 (kW ls n ta 1 j), .int .i64 (kAll ls n ta al be j)]) ∧ Below wr.heap.size wr w') := sWireK_any ls n wn ua uc va vc xa xc ta al be ga de j hlt wr (hTr.u.at.wide (by omega)) (hTr.v.at.wide (by omega)) (hTr.x.at.wide (by omega))
        have HX0 : Hid (sFldM (kW ls n ta 0) (j + 1) = sFldM (kW ls n ta 0) j ++ [.int .i64 (gx (kW ls n ta 0 j)).1, .int .i64 (gx (kW ls n ta 0 j)).2.1, .bool (gx (kW ls n ta 0 j)).2.2]) := sFldM_next _ _
        have HX1 : Hid (sFldM (kW ls n ta 1) (j + 1) = sFldM (kW ls n ta 1) j ++ [.int .i64 (gx (kW ls n ta 1 j)).1, .int .i64 (gx (kW ls n ta 1 j)).2.1, .bool (gx (kW ls n ta 1 j)).2.2]) := sFldM_next _ _
        have CK0 : Hid (∀ V, Calls Tryz.prog 79 #[.int .i64 (kW ls n ta 0 j)] V fun e w' => e = .returned (.agg #[.int .i64 (gx (kW ls n ta 0 j)).1, .int .i64 (gx (kW ls n ta 0 j)).2.1, .bool (gx (kW ls n ta 0 j)).2.2]) ∧ Below V.heap.size V w') := fun V => by have h := sKey_any (kW ls n ta 0 j) V; rw [gx_key] at h; exact h
        have CK1 : Hid (∀ V, Calls Tryz.prog 79 #[.int .i64 (kW ls n ta 1 j)] V fun e w' => e = .returned (.agg #[.int .i64 (gx (kW ls n ta 1 j)).1, .int .i64 (gx (kW ls n ta 1 j)).2.1, .bool (gx (kW ls n ta 1 j)).2.2]) ∧ Below V.heap.size V w') := fun V => by have h := sKey_any (kW ls n ta 1 j) V; rw [gx_key] at h; exact h
        have CI : Hid (∀ V, Calls Tryz.prog 82 #[.int .i64 ga] V fun e w' => e = .returned (.int .i64 (scInv ga)) ∧ V = w') := sScInv_any _
        have CJ : Hid (∀ V, Calls Tryz.prog 82 #[.int .i64 de] V fun e w' => e = .returned (.int .i64 (scInv de)) ∧ V = w') := sScInv_any _
        have CG : Hid (∀ V, Calls Tryz.prog 81 #[.int .i64 (kAll ls n ta al be j), .int .i64 (scInv ga)] V fun e w' => e = .returned (.int .i64 (kBy ls n ta al be (scInv ga) j)) ∧ V = w') := sScMul_any _ _
        have CDl : Hid (∀ V, Calls Tryz.prog 81 #[.int .i64 (kAll ls n ta al be j), .int .i64 (scInv de)] V fun e w' => e = .returned (.int .i64 (kBy ls n ta al be (scInv de) j)) ∧ V = w') := sScMul_any _ _
        have CKI : Hid (∀ V, Calls Tryz.prog 79 #[.int .i64 (kBy ls n ta al be (scInv ga) j)] V fun e w' => e = .returned (.agg #[.int .i64 (gx (kBy ls n ta al be (scInv ga) j)).1, .int .i64 (gx (kBy ls n ta al be (scInv ga) j)).2.1, .bool (gx (kBy ls n ta al be (scInv ga) j)).2.2]) ∧ Below V.heap.size V w') := fun V => by have h := sKey_any (kBy ls n ta al be (scInv ga) j) V; rw [gx_key] at h; exact h
        have CKL : Hid (∀ V, Calls Tryz.prog 79 #[.int .i64 (kBy ls n ta al be (scInv de) j)] V fun e w' => e = .returned (.agg #[.int .i64 (gx (kBy ls n ta al be (scInv de) j)).1, .int .i64 (gx (kBy ls n ta al be (scInv de) j)).2.1, .bool (gx (kBy ls n ta al be (scInv de) j)).2.2]) ∧ Below V.heap.size V w') := fun V => by have h := sKey_any (kBy ls n ta al be (scInv de) j) V; rw [gx_key] at h; exact h
        have HXI : Hid (j ≤ p → sFldM (kBy ls n ta al be (scInv ga)) (ni + 1) = sFldM (kBy ls n ta al be (scInv ga)) ni ++ [.int .i64 (gx (kBy ls n ta al be (scInv ga) j)).1, .int .i64 (gx (kBy ls n ta al be (scInv ga) j)).2.1, .bool (gx (kBy ls n ta al be (scInv ga) j)).2.2]) := fun h => by
          have e : ni = j := by have := HN.out; omega
          rw [e]
          exact sFldM_next _ _
        have HXL : Hid (¬ j ≤ p → sFldM (fun j => kBy ls n ta al be (scInv de) (p + 1 + j)) (nl + 1) = sFldM (fun j => kBy ls n ta al be (scInv de) (p + 1 + j)) nl ++ [.int .i64 (gx (kBy ls n ta al be (scInv de) j)).1, .int .i64 (gx (kBy ls n ta al be (scInv de) j)).2.1, .bool (gx (kBy ls n ta al be (scInv de) j)).2.2]) := fun h => by
          have e : p + 1 + nl = j := by have := HN.out; omega
          have h1 := sFldM_next (fun j => kBy ls n ta al be (scInv de) (p + 1 + j)) nl
          rw [e] at h1
          exact h1
        generalize gx (kBy ls n ta al be (scInv ga) j) = PI at CKI HXI
        generalize gx (kBy ls n ta al be (scInv de) j) = PL at CKL HXL
        generalize kBy ls n ta al be (scInv ga) j = yi at CG CKI
        generalize kBy ls n ta al be (scInv de) j = yl at CDl CKL
        generalize gx (kW ls n ta 0 j) = P0 at CK0 HX0
        generalize gx (kW ls n ta 1 j) = P1 at CK1 HX1
        generalize kW ls n ta 0 j = p0 at CW CK0
        generalize kW ls n ta 1 j = p1 at CW CK1
        generalize kAll ls n ta al be j = al1 at CW CG CDl
        obtain ⟨gi, hgi⟩ : ∃ gi, gi = scInv ga := ⟨_, rfl⟩
        obtain ⟨di, hdi⟩ : ∃ di, di = scInv de := ⟨_, rfl⟩
        rw [← hgi] at CI CG
        rw [← hdi] at CJ CDl
        clear hgi hdi
        obtain ⟨a1, a2, a3⟩ := P0
        obtain ⟨b1, b2, b3⟩ := P1
        obtain ⟨d1, d2, d3⟩ := PI
        obtain ⟨f1, f2, f3⟩ := PL
        clear hTr hKr
        go_wp2_with (first | (refine load_blk rfl rfl rfl hqa Tryz.underlying122 infoQa ?_) | (refine load_blk rfl rfl rfl htx Tryz.underlying31 infoTxF ?_))
        clear qw
        refine CW.out.mono ?_
        rintro e Y0 ⟨rfl, hbY⟩
        have HS4 : Hid (StM 35 3 40 gO w5 Y0 A B G D (vec5 v0 v1 v2 v3 (.slice none 0 0)) (vec5 j j ni nl 0) (vec5 (sFldM (kW ls n ta 0) j) (sFldM (kW ls n ta 1) j) (sFldM (kBy ls n ta al be (scInv ga)) ni) (sFldM (fun j => kBy ls n ta al be (scInv de) (p + 1 + j)) nl) [])) := HS.out.below hbY
        clear HS hbY CW hsy hqa htx
        generalize hx0 : sFldM (kW ls n ta 0) j = X0 at HS4 HX0
        generalize hx1 : sFldM (kW ls n ta 1) j = X1 at HS4 HX1
        clear hx0 hx1
        generalize hx2 : sFldM (kBy ls n ta al be (scInv ga)) ni = X2 at HS4
        generalize hx3 : sFldM (fun j => kBy ls n ta al be (scInv de) (p + 1 + j)) nl = X3 at HS4
        have HX2 : Hid (sFldM (kBy ls n ta al be (scInv ga)) ni = X2) := hx2
        have HX3 : Hid (sFldM (fun j => kBy ls n ta al be (scInv de) (p + 1 + j)) nl = X3) := hx3
        clear hx2 hx3
        have hni : ni ≤ 20 := by have := HN.out; omega
        have hnl : nl ≤ 20 := by have := HN.out; omega
        go_wp2_with fail
        obtain ⟨fa, fc, hfv⟩ := row_form (HS4.out.row.row 0 (by decide))
        replace hfv : v0 = .slice fa j fc := hfv
        have hm63 : j + 1 ≤ maxLen := by unfold maxLen; omega
        have hm47 : (j + 1) * 24 ≤ 140737488355328 := by omega
        subst hfv
        have hba : Blk Y0 gO 40 #[.int .i64 A.1, .int .i64 A.2.1, .bool A.2.2, .int .i64 B.1, .int .i64 B.2.1, .bool B.2.2, .int .i64 G.1, .int .i64 G.2.1, .bool G.2.2, .int .i64 D.1, .int .i64 D.2.1, .bool D.2.2, v2, (.slice fa j fc), v1, v3, (.slice none 0 0)] ∧ Blk Y0 (w.heap.size + 1) 31 #[.int .i64 ta, .int .i64 al, .int .i64 be, .int .i64 ga, .int .i64 de] := ⟨HS4.out.blk, HS4.out.kps.blk H5.out.2.1 (by omega)⟩
        refine wp_region_last [(0, false), (1, false), (2, false), (3, true), (4, true), (5, true), (6, false)] 7 (fun wz => Blk wz gO 40 #[.int .i64 A.1, .int .i64 A.2.1, .bool A.2.2, .int .i64 B.1, .int .i64 B.2.1, .bool B.2.2, .int .i64 G.1, .int .i64 G.2.1, .bool G.2.2, .int .i64 D.1, .int .i64 D.2.1, .bool D.2.2, v2, (.slice fa j fc), v1, v3, (.slice none 0 0)] ∧ Blk wz (w.heap.size + 1) 31 #[.int .i64 ta, .int .i64 al, .int .i64 be, .int .i64 ga, .int .i64 de]) mixes (by kernel_rfl) ⟨hba.1.drew, hba.2.drew⟩ ?_
        repeat (refine ord_float rfl rfl (fun K hK => ⟨_, (fun w' hw => by have q0 := hw.1.cell 13; have q1 :=  hw.2.cell 3; have q2 :=  hw.2.cell 4; go_simp; exact rfl), ?_⟩); go_simp; refine hK _ ?_; clear hK K)
        have HSy : StM 35 3 40 gO w5 Y0.drew A B G D (vec5 (.slice fa j fc) v1 v2 v3 (.slice none 0 0)) (vec5 j j ni nl 0) (vec5 X0 X1 X2 X3 []) :=  HS4.out.below (Below.refl _ _).drew
        refine ord_call rfl rfl (fun K hK => ⟨_, _, (by go_simp <;> first | exact rfl | exact ⟨rfl, rfl⟩), ?_⟩)
        refine (CK0.out _).mono ?_
        rintro e z0 ⟨rfl, hzk⟩
        have HSz : StM 35 3 40 gO w5 z0 A B G D (vec5 (.slice fa j fc) v1 v2 v3 (.slice none 0 0)) (vec5 j j ni nl 0) (vec5 X0 X1 X2 X3 []) := HSy.below hzk
        have hqk : Blk z0 gO 40 #[.int .i64 A.1, .int .i64 A.2.1, .bool A.2.2, .int .i64 B.1, .int .i64 B.2.1, .bool B.2.2, .int .i64 G.1, .int .i64 G.2.1, .bool G.2.2, .int .i64 D.1, .int .i64 D.2.1, .bool D.2.2, v2, (.slice fa j fc), v1, v3, (.slice none 0 0)] ∧ Blk z0 (w.heap.size + 1) 31 #[.int .i64 ta, .int .i64 al, .int .i64 be, .int .i64 ga, .int .i64 de] := ⟨HSz.blk, HSz.kps.blk H5.out.2.1 (by omega)⟩
        refine ⟨_, rfl, hqk, ?_⟩
        go_simp
        refine hK _ _ ?_
        clear hK K
        repeat (refine ord_float rfl rfl (fun K hK => ⟨_, (fun w' hw => by have q0 := hw.1.cell 13; have q1 :=  hw.2.cell 3; have q2 :=  hw.2.cell 4; go_simp; exact rfl), ?_⟩); go_simp; refine hK _ ?_; clear hK K)
        have HSa := HSz.alloc (.cells #[.int .i64 a1, .int .i64 a2, .bool a3] 35)
        have hqa2 : Blk (z0.alloc (.cells #[.int .i64 a1, .int .i64 a2, .bool a3] 35)) gO 40 #[.int .i64 A.1, .int .i64 A.2.1, .bool A.2.2, .int .i64 B.1, .int .i64 B.2.1, .bool B.2.2, .int .i64 G.1, .int .i64 G.2.1, .bool G.2.2, .int .i64 D.1, .int .i64 D.2.1, .bool D.2.2, v2, (.slice fa j fc), v1, v3, (.slice none 0 0)] ∧ Blk (z0.alloc (.cells #[.int .i64 a1, .int .i64 a2, .bool a3] 35)) (w.heap.size + 1) 31 #[.int .i64 ta, .int .i64 al, .int .i64 be, .int .i64 ga, .int .i64 de] := ⟨HSa.blk, HSa.kps.blk H5.out.2.1 (by omega)⟩
        refine ord_op rfl rfl (fun K hK => ⟨.slice (some ⟨z0.heap.size, 0, none⟩) 1 1, (z0.alloc (.cells #[.int .i64 a1, .int .i64 a2, .bool a3] 35)), (by go_simp <;> rfl), hqa2, ?_⟩)
        go_simp
        refine hK _ _ ?_
        clear hK K
        have hrow : (z0.alloc (.cells #[.int .i64 a1, .int .i64 a2, .bool a3] 35)).ownsRow w5.heap.size 35 3 (.slice fa j fc) j X0 := HSa.row.row 0 (by decide)
        refine ord_append rfl rfl _ _ 36 rfl w5.heap.size 35 i0 (.agg #[.int .i64 0, .int .i64 0, .bool false]) 3 24 Tryz.underlying36 hi hz0 hz1 hz2 rfl (by decide) _ _ _ rfl hrow ⟨z0.heap.size, 0, none⟩ 1 1 [.int .i64 a1, .int .i64 a2, .bool a3] rfl rfl (cell_three_new _ _ _ _ _) (three_cell _ _ _) hm63 hm47 HSa.kps.size ?_
        intro nv yb hown' hgrow hat
        have hbm1 : Blk yb gO 40 #[.int .i64 A.1, .int .i64 A.2.1, .bool A.2.2, .int .i64 B.1, .int .i64 B.2.1, .bool B.2.2, .int .i64 G.1, .int .i64 G.2.1, .bool G.2.2, .int .i64 D.1, .int .i64 D.2.1, .bool D.2.2, v2, (.slice fa j fc), v1, v3, (.slice none 0 0)] := HSa.mid 0 (by decide) hgrow
        have hbm2 : Blk yb (w.heap.size + 1) 31 #[.int .i64 ta, .int .i64 al, .int .i64 be, .int .i64 ga, .int .i64 de] := (kps_grown hgrow).blk hqa2.2 (fun e => by have h1 := (hrow.lt _ e).1; omega)
        refine ⟨⟨hbm1, hbm2⟩, fun K hK => ?_⟩
        go_simp
        refine hK _ ?_
        clear hK K
        repeat (refine ord_float rfl rfl (fun K hK => ⟨_, (fun w' hw => by have q0 := hw.1.cell 13; have q1 :=  hw.2.cell 3; have q2 :=  hw.2.cell 4; go_simp; exact rfl), ?_⟩); go_simp; refine hK _ ?_; clear hK K)
        refine ord_nil ?_
        have HSn := HSa.step 0 (by decide) hown' hgrow hat
        obtain ⟨na, nc, hnv⟩ := row_form hown'
        subst hnv
        have hcy := hbm1.cell 13
        have hfy := hbm1.free 13
        refine last_store rfl rfl rfl (yb.setCell ⟨gO, 13, none⟩ (.slice na (j + 1) nc)) (by go_simp <;> rfl) ?_
        have HSE : Hid (StM 35 3 40 gO w5 (yb.setCell ⟨gO, 13, none⟩ (.slice na (j + 1) nc)) A B G D (vec5 (.slice na (j + 1) nc) v1 v2 v3 (.slice none 0 0)) (vec5 (j + 1) j ni nl 0) (vec5 (sFldM (kW ls n ta 0) (j + 1)) X1 X2 X3 [])) := by rw [HX0.out]; exact (by have h := HSn; rw [set5_0, set5_0, set5_0] at h; exact h)
        generalize (yb.setCell ⟨gO, 13, none⟩ (.slice na (j + 1) nc)) = Y1 at HSE ⊢
        clear HSn hbm1 hbm2 hown' hgrow hat hcy hfy hrow hqa2 HSa HSz HSy hzk hqk hba HS4 hm63 hm47 CK0  HX0
        generalize hqn : (Value.slice na (j + 1) nc) = nvY1 at HSE
        clear hqn
        have HS5 : Hid (StM 35 3 40 gO w5 Y1 A B G D (vec5 nvY1 v1 v2 v3 (.slice none 0 0)) (vec5 (j + 1) j ni nl 0) (vec5 (sFldM (kW ls n ta 0) (j + 1)) X1 X2 X3 [])) := HSE
        clear HSE
        go_wp2_with fail
        obtain ⟨fa, fc, hfv⟩ := row_form (HS5.out.row.row 1 (by decide))
        replace hfv : v1 = .slice fa j fc := hfv
        have hm63 : j + 1 ≤ maxLen := by unfold maxLen; omega
        have hm47 : (j + 1) * 24 ≤ 140737488355328 := by omega
        subst hfv
        have hba : Blk Y1 gO 40 #[.int .i64 A.1, .int .i64 A.2.1, .bool A.2.2, .int .i64 B.1, .int .i64 B.2.1, .bool B.2.2, .int .i64 G.1, .int .i64 G.2.1, .bool G.2.2, .int .i64 D.1, .int .i64 D.2.1, .bool D.2.2, v2, nvY1, (.slice fa j fc), v3, (.slice none 0 0)] ∧ Blk Y1 (w.heap.size + 1) 31 #[.int .i64 ta, .int .i64 al, .int .i64 be, .int .i64 ga, .int .i64 de] := ⟨HS5.out.blk, HS5.out.kps.blk H5.out.2.1 (by omega)⟩
        refine wp_region_last [(0, false), (1, false), (2, false), (3, true), (4, true), (5, true), (6, false)] 7 (fun wz => Blk wz gO 40 #[.int .i64 A.1, .int .i64 A.2.1, .bool A.2.2, .int .i64 B.1, .int .i64 B.2.1, .bool B.2.2, .int .i64 G.1, .int .i64 G.2.1, .bool G.2.2, .int .i64 D.1, .int .i64 D.2.1, .bool D.2.2, v2, nvY1, (.slice fa j fc), v3, (.slice none 0 0)] ∧ Blk wz (w.heap.size + 1) 31 #[.int .i64 ta, .int .i64 al, .int .i64 be, .int .i64 ga, .int .i64 de]) mixes (by kernel_rfl) ⟨hba.1.drew, hba.2.drew⟩ ?_
        repeat (refine ord_float rfl rfl (fun K hK => ⟨_, (fun w' hw => by have q0 := hw.1.cell 14; have q1 :=  hw.2.cell 3; have q2 :=  hw.2.cell 4; go_simp; exact rfl), ?_⟩); go_simp; refine hK _ ?_; clear hK K)
        have HSy : StM 35 3 40 gO w5 Y1.drew A B G D (vec5 nvY1 (.slice fa j fc) v2 v3 (.slice none 0 0)) (vec5 (j + 1) j ni nl 0) (vec5 (sFldM (kW ls n ta 0) (j + 1)) X1 X2 X3 []) :=  HS5.out.below (Below.refl _ _).drew
        refine ord_call rfl rfl (fun K hK => ⟨_, _, (by go_simp <;> first | exact rfl | exact ⟨rfl, rfl⟩), ?_⟩)
        refine (CK1.out _).mono ?_
        rintro e z0 ⟨rfl, hzk⟩
        have HSz : StM 35 3 40 gO w5 z0 A B G D (vec5 nvY1 (.slice fa j fc) v2 v3 (.slice none 0 0)) (vec5 (j + 1) j ni nl 0) (vec5 (sFldM (kW ls n ta 0) (j + 1)) X1 X2 X3 []) := HSy.below hzk
        have hqk : Blk z0 gO 40 #[.int .i64 A.1, .int .i64 A.2.1, .bool A.2.2, .int .i64 B.1, .int .i64 B.2.1, .bool B.2.2, .int .i64 G.1, .int .i64 G.2.1, .bool G.2.2, .int .i64 D.1, .int .i64 D.2.1, .bool D.2.2, v2, nvY1, (.slice fa j fc), v3, (.slice none 0 0)] ∧ Blk z0 (w.heap.size + 1) 31 #[.int .i64 ta, .int .i64 al, .int .i64 be, .int .i64 ga, .int .i64 de] := ⟨HSz.blk, HSz.kps.blk H5.out.2.1 (by omega)⟩
        refine ⟨_, rfl, hqk, ?_⟩
        go_simp
        refine hK _ _ ?_
        clear hK K
        repeat (refine ord_float rfl rfl (fun K hK => ⟨_, (fun w' hw => by have q0 := hw.1.cell 14; have q1 :=  hw.2.cell 3; have q2 :=  hw.2.cell 4; go_simp; exact rfl), ?_⟩); go_simp; refine hK _ ?_; clear hK K)
        have HSa := HSz.alloc (.cells #[.int .i64 b1, .int .i64 b2, .bool b3] 35)
        have hqa2 : Blk (z0.alloc (.cells #[.int .i64 b1, .int .i64 b2, .bool b3] 35)) gO 40 #[.int .i64 A.1, .int .i64 A.2.1, .bool A.2.2, .int .i64 B.1, .int .i64 B.2.1, .bool B.2.2, .int .i64 G.1, .int .i64 G.2.1, .bool G.2.2, .int .i64 D.1, .int .i64 D.2.1, .bool D.2.2, v2, nvY1, (.slice fa j fc), v3, (.slice none 0 0)] ∧ Blk (z0.alloc (.cells #[.int .i64 b1, .int .i64 b2, .bool b3] 35)) (w.heap.size + 1) 31 #[.int .i64 ta, .int .i64 al, .int .i64 be, .int .i64 ga, .int .i64 de] := ⟨HSa.blk, HSa.kps.blk H5.out.2.1 (by omega)⟩
        refine ord_op rfl rfl (fun K hK => ⟨.slice (some ⟨z0.heap.size, 0, none⟩) 1 1, (z0.alloc (.cells #[.int .i64 b1, .int .i64 b2, .bool b3] 35)), (by go_simp <;> rfl), hqa2, ?_⟩)
        go_simp
        refine hK _ _ ?_
        clear hK K
        have hrow : (z0.alloc (.cells #[.int .i64 b1, .int .i64 b2, .bool b3] 35)).ownsRow w5.heap.size 35 3 (.slice fa j fc) j X1 := HSa.row.row 1 (by decide)
        refine ord_append rfl rfl _ _ 36 rfl w5.heap.size 35 i0 (.agg #[.int .i64 0, .int .i64 0, .bool false]) 3 24 Tryz.underlying36 hi hz0 hz1 hz2 rfl (by decide) _ _ _ rfl hrow ⟨z0.heap.size, 0, none⟩ 1 1 [.int .i64 b1, .int .i64 b2, .bool b3] rfl rfl (cell_three_new _ _ _ _ _) (three_cell _ _ _) hm63 hm47 HSa.kps.size ?_
        intro nv yb hown' hgrow hat
        have hbm1 : Blk yb gO 40 #[.int .i64 A.1, .int .i64 A.2.1, .bool A.2.2, .int .i64 B.1, .int .i64 B.2.1, .bool B.2.2, .int .i64 G.1, .int .i64 G.2.1, .bool G.2.2, .int .i64 D.1, .int .i64 D.2.1, .bool D.2.2, v2, nvY1, (.slice fa j fc), v3, (.slice none 0 0)] := HSa.mid 1 (by decide) hgrow
        have hbm2 : Blk yb (w.heap.size + 1) 31 #[.int .i64 ta, .int .i64 al, .int .i64 be, .int .i64 ga, .int .i64 de] := (kps_grown hgrow).blk hqa2.2 (fun e => by have h1 := (hrow.lt _ e).1; omega)
        refine ⟨⟨hbm1, hbm2⟩, fun K hK => ?_⟩
        go_simp
        refine hK _ ?_
        clear hK K
        repeat (refine ord_float rfl rfl (fun K hK => ⟨_, (fun w' hw => by have q0 := hw.1.cell 14; have q1 :=  hw.2.cell 3; have q2 :=  hw.2.cell 4; go_simp; exact rfl), ?_⟩); go_simp; refine hK _ ?_; clear hK K)
        refine ord_nil ?_
        have HSn := HSa.step 1 (by decide) hown' hgrow hat
        obtain ⟨na, nc, hnv⟩ := row_form hown'
        subst hnv
        have hcy := hbm1.cell 14
        have hfy := hbm1.free 14
        refine last_store rfl rfl rfl (yb.setCell ⟨gO, 14, none⟩ (.slice na (j + 1) nc)) (by go_simp <;> rfl) ?_
        have HSE : Hid (StM 35 3 40 gO w5 (yb.setCell ⟨gO, 14, none⟩ (.slice na (j + 1) nc)) A B G D (vec5 nvY1 (.slice na (j + 1) nc) v2 v3 (.slice none 0 0)) (vec5 (j + 1) (j + 1) ni nl 0) (vec5 (sFldM (kW ls n ta 0) (j + 1)) (sFldM (kW ls n ta 1) (j + 1)) X2 X3 [])) := by rw [HX1.out]; exact (by have h := HSn; rw [set5_1, set5_1, set5_1] at h; exact h)
        generalize (yb.setCell ⟨gO, 14, none⟩ (.slice na (j + 1) nc)) = Y2 at HSE ⊢
        clear HSn hbm1 hbm2 hown' hgrow hat hcy hfy hrow hqa2 HSa HSz HSy hzk hqk hba HS5 hm63 hm47 CK1  HX1
        generalize hqn : (Value.slice na (j + 1) nc) = nvY2 at HSE
        clear hqn
        have HS6 : Hid (StM 35 3 40 gO w5 Y2 A B G D (vec5 nvY1 nvY2 v2 v3 (.slice none 0 0)) (vec5 (j + 1) (j + 1) ni nl 0) (vec5 (sFldM (kW ls n ta 0) (j + 1)) (sFldM (kW ls n ta 1) (j + 1)) X2 X3 [])) := HSE
        clear HSE
        have hsyw : Blk Y2 w.heap.size 26 #[.int .i64 (wn : Int), .int .i64 (p : Int), .slice a n c] := HS6.out.kps.blk H5.out.2.2.1 (by omega)
        have qp : Y2.cell? ⟨w.heap.size, 1, none⟩ = some (.int .i64 (p : Int)) := hsyw.cell 1
        clear hsyw
        by_cases hjp : j ≤ p
        · have hjp' : (j : Int) ≤ (p : Int) := by omega
          have HXI := HXI.out hjp
          have HXI : Hid _ := HXI
          rw [HX2.out] at HXI
          clear CJ CDl CKL HXL
          go_wp2_with fail
          clear qp
          obtain ⟨fa, fc, hfv⟩ := row_form (HS6.out.row.row 2 (by decide))
          replace hfv : v2 = .slice fa ni fc := hfv
          have hm63 : ni + 1 ≤ maxLen := by unfold maxLen; omega
          have hm47 : (ni + 1) * 24 ≤ 140737488355328 := by omega
          subst hfv
          have hba : Blk Y2 gO 40 #[.int .i64 A.1, .int .i64 A.2.1, .bool A.2.2, .int .i64 B.1, .int .i64 B.2.1, .bool B.2.2, .int .i64 G.1, .int .i64 G.2.1, .bool G.2.2, .int .i64 D.1, .int .i64 D.2.1, .bool D.2.2, (.slice fa ni fc), nvY1, nvY2, v3, (.slice none 0 0)] ∧ Blk Y2 (w.heap.size + 1) 31 #[.int .i64 ta, .int .i64 al, .int .i64 be, .int .i64 ga, .int .i64 de] := ⟨HS6.out.blk, HS6.out.kps.blk H5.out.2.1 (by omega)⟩
          refine wp_region_last [(0, false), (1, false), (2, false), (3, false), (4, false), (5, false), (6, true), (7, true), (8, true), (9, true), (10, true), (11, true), (12, false)] 13 (fun wz => Blk wz gO 40 #[.int .i64 A.1, .int .i64 A.2.1, .bool A.2.2, .int .i64 B.1, .int .i64 B.2.1, .bool B.2.2, .int .i64 G.1, .int .i64 G.2.1, .bool G.2.2, .int .i64 D.1, .int .i64 D.2.1, .bool D.2.2, (.slice fa ni fc), nvY1, nvY2, v3, (.slice none 0 0)] ∧ Blk wz (w.heap.size + 1) 31 #[.int .i64 ta, .int .i64 al, .int .i64 be, .int .i64 ga, .int .i64 de]) mixes (by kernel_rfl) ⟨hba.1.drew, hba.2.drew⟩ ?_
          repeat (refine ord_float rfl rfl (fun K hK => ⟨_, (fun w' hw => by have q0 := hw.1.cell 12; have q1 :=  hw.2.cell 3; have q2 :=  hw.2.cell 4; go_simp; exact rfl), ?_⟩); go_simp; refine hK _ ?_; clear hK K)
          refine ord_call rfl rfl (fun K hK => ⟨_, _, (by go_simp <;> first | exact rfl | exact ⟨rfl, rfl⟩), ?_⟩)
          refine (CI.out _).mono ?_
          rintro e z0 ⟨rfl, hze0⟩
          have hqu0 : Blk z0 gO 40 #[.int .i64 A.1, .int .i64 A.2.1, .bool A.2.2, .int .i64 B.1, .int .i64 B.2.1, .bool B.2.2, .int .i64 G.1, .int .i64 G.2.1, .bool G.2.2, .int .i64 D.1, .int .i64 D.2.1, .bool D.2.2, (.slice fa ni fc), nvY1, nvY2, v3, (.slice none 0 0)] ∧ Blk z0 (w.heap.size + 1) 31 #[.int .i64 ta, .int .i64 al, .int .i64 be, .int .i64 ga, .int .i64 de] := hze0 ▸ ⟨hba.1.drew, hba.2.drew⟩
          refine ⟨_, rfl, hqu0, ?_⟩
          go_simp
          refine hK _ _ ?_
          clear hK K
          refine ord_call rfl rfl (fun K hK => ⟨_, _, (by go_simp <;> first | exact rfl | exact ⟨rfl, rfl⟩), ?_⟩)
          refine (CG.out _).mono ?_
          rintro e z1 ⟨rfl, hze1⟩
          have hqu1 : Blk z1 gO 40 #[.int .i64 A.1, .int .i64 A.2.1, .bool A.2.2, .int .i64 B.1, .int .i64 B.2.1, .bool B.2.2, .int .i64 G.1, .int .i64 G.2.1, .bool G.2.2, .int .i64 D.1, .int .i64 D.2.1, .bool D.2.2, (.slice fa ni fc), nvY1, nvY2, v3, (.slice none 0 0)] ∧ Blk z1 (w.heap.size + 1) 31 #[.int .i64 ta, .int .i64 al, .int .i64 be, .int .i64 ga, .int .i64 de] := hze1 ▸ hqu0
          refine ⟨_, rfl, hqu1, ?_⟩
          go_simp
          refine hK _ _ ?_
          clear hK K
          have HSy : StM 35 3 40 gO w5 z1 A B G D (vec5 nvY1 nvY2 (.slice fa ni fc) v3 (.slice none 0 0)) (vec5 (j + 1) (j + 1) ni nl 0) (vec5 (sFldM (kW ls n ta 0) (j + 1)) (sFldM (kW ls n ta 1) (j + 1)) X2 X3 []) := hze1 ▸ hze0 ▸ HS6.out.below (Below.refl _ _).drew
          refine ord_call rfl rfl (fun K hK => ⟨_, _, (by go_simp <;> first | exact rfl | exact ⟨rfl, rfl⟩), ?_⟩)
          refine (CKI.out _).mono ?_
          rintro e z2 ⟨rfl, hzk⟩
          have HSz : StM 35 3 40 gO w5 z2 A B G D (vec5 nvY1 nvY2 (.slice fa ni fc) v3 (.slice none 0 0)) (vec5 (j + 1) (j + 1) ni nl 0) (vec5 (sFldM (kW ls n ta 0) (j + 1)) (sFldM (kW ls n ta 1) (j + 1)) X2 X3 []) := HSy.below hzk
          have hqk : Blk z2 gO 40 #[.int .i64 A.1, .int .i64 A.2.1, .bool A.2.2, .int .i64 B.1, .int .i64 B.2.1, .bool B.2.2, .int .i64 G.1, .int .i64 G.2.1, .bool G.2.2, .int .i64 D.1, .int .i64 D.2.1, .bool D.2.2, (.slice fa ni fc), nvY1, nvY2, v3, (.slice none 0 0)] ∧ Blk z2 (w.heap.size + 1) 31 #[.int .i64 ta, .int .i64 al, .int .i64 be, .int .i64 ga, .int .i64 de] := ⟨HSz.blk, HSz.kps.blk H5.out.2.1 (by omega)⟩
          refine ⟨_, rfl, hqk, ?_⟩
          go_simp
          refine hK _ _ ?_
          clear hK K
          repeat (refine ord_float rfl rfl (fun K hK => ⟨_, (fun w' hw => by have q0 := hw.1.cell 12; have q1 :=  hw.2.cell 3; have q2 :=  hw.2.cell 4; go_simp; exact rfl), ?_⟩); go_simp; refine hK _ ?_; clear hK K)
          have HSa := HSz.alloc (.cells #[.int .i64 d1, .int .i64 d2, .bool d3] 35)
          have hqa2 : Blk (z2.alloc (.cells #[.int .i64 d1, .int .i64 d2, .bool d3] 35)) gO 40 #[.int .i64 A.1, .int .i64 A.2.1, .bool A.2.2, .int .i64 B.1, .int .i64 B.2.1, .bool B.2.2, .int .i64 G.1, .int .i64 G.2.1, .bool G.2.2, .int .i64 D.1, .int .i64 D.2.1, .bool D.2.2, (.slice fa ni fc), nvY1, nvY2, v3, (.slice none 0 0)] ∧ Blk (z2.alloc (.cells #[.int .i64 d1, .int .i64 d2, .bool d3] 35)) (w.heap.size + 1) 31 #[.int .i64 ta, .int .i64 al, .int .i64 be, .int .i64 ga, .int .i64 de] := ⟨HSa.blk, HSa.kps.blk H5.out.2.1 (by omega)⟩
          refine ord_op rfl rfl (fun K hK => ⟨.slice (some ⟨z2.heap.size, 0, none⟩) 1 1, (z2.alloc (.cells #[.int .i64 d1, .int .i64 d2, .bool d3] 35)), (by go_simp <;> rfl), hqa2, ?_⟩)
          go_simp
          refine hK _ _ ?_
          clear hK K
          have hrow : (z2.alloc (.cells #[.int .i64 d1, .int .i64 d2, .bool d3] 35)).ownsRow w5.heap.size 35 3 (.slice fa ni fc) ni X2 := HSa.row.row 2 (by decide)
          refine ord_append rfl rfl _ _ 36 rfl w5.heap.size 35 i0 (.agg #[.int .i64 0, .int .i64 0, .bool false]) 3 24 Tryz.underlying36 hi hz0 hz1 hz2 rfl (by decide) _ _ _ rfl hrow ⟨z2.heap.size, 0, none⟩ 1 1 [.int .i64 d1, .int .i64 d2, .bool d3] rfl rfl (cell_three_new _ _ _ _ _) (three_cell _ _ _) hm63 hm47 HSa.kps.size ?_
          intro nv yb hown' hgrow hat
          have hbm1 : Blk yb gO 40 #[.int .i64 A.1, .int .i64 A.2.1, .bool A.2.2, .int .i64 B.1, .int .i64 B.2.1, .bool B.2.2, .int .i64 G.1, .int .i64 G.2.1, .bool G.2.2, .int .i64 D.1, .int .i64 D.2.1, .bool D.2.2, (.slice fa ni fc), nvY1, nvY2, v3, (.slice none 0 0)] := HSa.mid 2 (by decide) hgrow
          have hbm2 : Blk yb (w.heap.size + 1) 31 #[.int .i64 ta, .int .i64 al, .int .i64 be, .int .i64 ga, .int .i64 de] := (kps_grown hgrow).blk hqa2.2 (fun e => by have h1 := (hrow.lt _ e).1; omega)
          refine ⟨⟨hbm1, hbm2⟩, fun K hK => ?_⟩
          go_simp
          refine hK _ ?_
          clear hK K
          refine ord_op rfl rfl (fun K hK => ⟨_, _, (by go_simp <;> rfl), ⟨hbm1, hbm2⟩, ?_⟩)
          go_simp
          refine hK _ _ ?_
          clear hK K
          repeat (refine ord_float rfl rfl (fun K hK => ⟨_, (fun w' hw => by have q0 := hw.1.cell 12; have q1 :=  hw.2.cell 3; have q2 :=  hw.2.cell 4; go_simp; exact rfl), ?_⟩); go_simp; refine hK _ ?_; clear hK K)
          refine ord_nil ?_
          have HSn := HSa.step 2 (by decide) hown' hgrow hat
          obtain ⟨na, nc, hnv⟩ := row_form hown'
          subst hnv
          have hcy := hbm1.cell 12
          have hfy := hbm1.free 12
          refine last_store rfl rfl rfl (yb.setCell ⟨gO, 12, none⟩ (.slice na (ni + 1) nc)) (by go_simp <;> rfl) ?_
          have HSE : Hid (StM 35 3 40 gO w5 (yb.setCell ⟨gO, 12, none⟩ (.slice na (ni + 1) nc)) A B G D (vec5 nvY1 nvY2 (.slice na (ni + 1) nc) v3 (.slice none 0 0)) (vec5 (j + 1) (j + 1) (ni + 1) nl 0) (vec5 (sFldM (kW ls n ta 0) (j + 1)) (sFldM (kW ls n ta 1) (j + 1)) (sFldM (kBy ls n ta al be (scInv ga)) (ni + 1)) X3 [])) := by rw [HXI.out]; exact (by have h := HSn; rw [set5_2, set5_2, set5_2] at h; exact h)
          generalize (yb.setCell ⟨gO, 12, none⟩ (.slice na (ni + 1) nc)) = Y3 at HSE ⊢
          clear HSn hbm1 hbm2 hown' hgrow hat hcy hfy hrow hqa2 HSa HSz HSy hzk hqk hba HS6 hm63 hm47 CKI hqu0 hqu1 HXI
          generalize hqn : (Value.slice na (ni + 1) nc) = nvY3 at HSE
          clear hqn
          rw [← HX3.out] at HSE
          go_wp2_with fail
          go_roundw
          case rel => exact ⟨j + 1, ni + 1, nl, _, _, _, _, by go_num, hlt, ⟨by have := HN.out; omega, by have := HN.out; omega⟩, HSE⟩
          case measure => simp [intOf]; omega
        · have hjp' : ¬ (j : Int) ≤ (p : Int) := by omega
          have HXL := HXL.out hjp
          have HXL : Hid _ := HXL
          rw [HX3.out] at HXL
          clear CI CG CKI HXI
          go_wp2_with fail
          clear qp
          obtain ⟨fa, fc, hfv⟩ := row_form (HS6.out.row.row 3 (by decide))
          replace hfv : v3 = .slice fa nl fc := hfv
          have hm63 : nl + 1 ≤ maxLen := by unfold maxLen; omega
          have hm47 : (nl + 1) * 24 ≤ 140737488355328 := by omega
          subst hfv
          have hba : Blk Y2 gO 40 #[.int .i64 A.1, .int .i64 A.2.1, .bool A.2.2, .int .i64 B.1, .int .i64 B.2.1, .bool B.2.2, .int .i64 G.1, .int .i64 G.2.1, .bool G.2.2, .int .i64 D.1, .int .i64 D.2.1, .bool D.2.2, v2, nvY1, nvY2, (.slice fa nl fc), (.slice none 0 0)] ∧ Blk Y2 (w.heap.size + 1) 31 #[.int .i64 ta, .int .i64 al, .int .i64 be, .int .i64 ga, .int .i64 de] := ⟨HS6.out.blk, HS6.out.kps.blk H5.out.2.1 (by omega)⟩
          refine wp_region_last [(0, false), (1, false), (2, false), (3, false), (4, false), (5, true), (6, true), (7, true), (8, true), (9, true), (10, false)] 11 (fun wz => Blk wz gO 40 #[.int .i64 A.1, .int .i64 A.2.1, .bool A.2.2, .int .i64 B.1, .int .i64 B.2.1, .bool B.2.2, .int .i64 G.1, .int .i64 G.2.1, .bool G.2.2, .int .i64 D.1, .int .i64 D.2.1, .bool D.2.2, v2, nvY1, nvY2, (.slice fa nl fc), (.slice none 0 0)] ∧ Blk wz (w.heap.size + 1) 31 #[.int .i64 ta, .int .i64 al, .int .i64 be, .int .i64 ga, .int .i64 de]) mixes (by kernel_rfl) ⟨hba.1.drew, hba.2.drew⟩ ?_
          repeat (refine ord_float rfl rfl (fun K hK => ⟨_, (fun w' hw => by have q0 := hw.1.cell 15; have q1 :=  hw.2.cell 3; have q2 :=  hw.2.cell 4; go_simp; exact rfl), ?_⟩); go_simp; refine hK _ ?_; clear hK K)
          refine ord_call rfl rfl (fun K hK => ⟨_, _, (by go_simp <;> first | exact rfl | exact ⟨rfl, rfl⟩), ?_⟩)
          refine (CJ.out _).mono ?_
          rintro e z0 ⟨rfl, hze0⟩
          have hqu0 : Blk z0 gO 40 #[.int .i64 A.1, .int .i64 A.2.1, .bool A.2.2, .int .i64 B.1, .int .i64 B.2.1, .bool B.2.2, .int .i64 G.1, .int .i64 G.2.1, .bool G.2.2, .int .i64 D.1, .int .i64 D.2.1, .bool D.2.2, v2, nvY1, nvY2, (.slice fa nl fc), (.slice none 0 0)] ∧ Blk z0 (w.heap.size + 1) 31 #[.int .i64 ta, .int .i64 al, .int .i64 be, .int .i64 ga, .int .i64 de] := hze0 ▸ ⟨hba.1.drew, hba.2.drew⟩
          refine ⟨_, rfl, hqu0, ?_⟩
          go_simp
          refine hK _ _ ?_
          clear hK K
          refine ord_call rfl rfl (fun K hK => ⟨_, _, (by go_simp <;> first | exact rfl | exact ⟨rfl, rfl⟩), ?_⟩)
          refine (CDl.out _).mono ?_
          rintro e z1 ⟨rfl, hze1⟩
          have hqu1 : Blk z1 gO 40 #[.int .i64 A.1, .int .i64 A.2.1, .bool A.2.2, .int .i64 B.1, .int .i64 B.2.1, .bool B.2.2, .int .i64 G.1, .int .i64 G.2.1, .bool G.2.2, .int .i64 D.1, .int .i64 D.2.1, .bool D.2.2, v2, nvY1, nvY2, (.slice fa nl fc), (.slice none 0 0)] ∧ Blk z1 (w.heap.size + 1) 31 #[.int .i64 ta, .int .i64 al, .int .i64 be, .int .i64 ga, .int .i64 de] := hze1 ▸ hqu0
          refine ⟨_, rfl, hqu1, ?_⟩
          go_simp
          refine hK _ _ ?_
          clear hK K
          have HSy : StM 35 3 40 gO w5 z1 A B G D (vec5 nvY1 nvY2 v2 (.slice fa nl fc) (.slice none 0 0)) (vec5 (j + 1) (j + 1) ni nl 0) (vec5 (sFldM (kW ls n ta 0) (j + 1)) (sFldM (kW ls n ta 1) (j + 1)) X2 X3 []) := hze1 ▸ hze0 ▸ HS6.out.below (Below.refl _ _).drew
          refine ord_call rfl rfl (fun K hK => ⟨_, _, (by go_simp <;> first | exact rfl | exact ⟨rfl, rfl⟩), ?_⟩)
          refine (CKL.out _).mono ?_
          rintro e z2 ⟨rfl, hzk⟩
          have HSz : StM 35 3 40 gO w5 z2 A B G D (vec5 nvY1 nvY2 v2 (.slice fa nl fc) (.slice none 0 0)) (vec5 (j + 1) (j + 1) ni nl 0) (vec5 (sFldM (kW ls n ta 0) (j + 1)) (sFldM (kW ls n ta 1) (j + 1)) X2 X3 []) := HSy.below hzk
          have hqk : Blk z2 gO 40 #[.int .i64 A.1, .int .i64 A.2.1, .bool A.2.2, .int .i64 B.1, .int .i64 B.2.1, .bool B.2.2, .int .i64 G.1, .int .i64 G.2.1, .bool G.2.2, .int .i64 D.1, .int .i64 D.2.1, .bool D.2.2, v2, nvY1, nvY2, (.slice fa nl fc), (.slice none 0 0)] ∧ Blk z2 (w.heap.size + 1) 31 #[.int .i64 ta, .int .i64 al, .int .i64 be, .int .i64 ga, .int .i64 de] := ⟨HSz.blk, HSz.kps.blk H5.out.2.1 (by omega)⟩
          refine ⟨_, rfl, hqk, ?_⟩
          go_simp
          refine hK _ _ ?_
          clear hK K
          repeat (refine ord_float rfl rfl (fun K hK => ⟨_, (fun w' hw => by have q0 := hw.1.cell 15; have q1 :=  hw.2.cell 3; have q2 :=  hw.2.cell 4; go_simp; exact rfl), ?_⟩); go_simp; refine hK _ ?_; clear hK K)
          have HSa := HSz.alloc (.cells #[.int .i64 f1, .int .i64 f2, .bool f3] 35)
          have hqa2 : Blk (z2.alloc (.cells #[.int .i64 f1, .int .i64 f2, .bool f3] 35)) gO 40 #[.int .i64 A.1, .int .i64 A.2.1, .bool A.2.2, .int .i64 B.1, .int .i64 B.2.1, .bool B.2.2, .int .i64 G.1, .int .i64 G.2.1, .bool G.2.2, .int .i64 D.1, .int .i64 D.2.1, .bool D.2.2, v2, nvY1, nvY2, (.slice fa nl fc), (.slice none 0 0)] ∧ Blk (z2.alloc (.cells #[.int .i64 f1, .int .i64 f2, .bool f3] 35)) (w.heap.size + 1) 31 #[.int .i64 ta, .int .i64 al, .int .i64 be, .int .i64 ga, .int .i64 de] := ⟨HSa.blk, HSa.kps.blk H5.out.2.1 (by omega)⟩
          refine ord_op rfl rfl (fun K hK => ⟨.slice (some ⟨z2.heap.size, 0, none⟩) 1 1, (z2.alloc (.cells #[.int .i64 f1, .int .i64 f2, .bool f3] 35)), (by go_simp <;> rfl), hqa2, ?_⟩)
          go_simp
          refine hK _ _ ?_
          clear hK K
          have hrow : (z2.alloc (.cells #[.int .i64 f1, .int .i64 f2, .bool f3] 35)).ownsRow w5.heap.size 35 3 (.slice fa nl fc) nl X3 := HSa.row.row 3 (by decide)
          refine ord_append rfl rfl _ _ 36 rfl w5.heap.size 35 i0 (.agg #[.int .i64 0, .int .i64 0, .bool false]) 3 24 Tryz.underlying36 hi hz0 hz1 hz2 rfl (by decide) _ _ _ rfl hrow ⟨z2.heap.size, 0, none⟩ 1 1 [.int .i64 f1, .int .i64 f2, .bool f3] rfl rfl (cell_three_new _ _ _ _ _) (three_cell _ _ _) hm63 hm47 HSa.kps.size ?_
          intro nv yb hown' hgrow hat
          have hbm1 : Blk yb gO 40 #[.int .i64 A.1, .int .i64 A.2.1, .bool A.2.2, .int .i64 B.1, .int .i64 B.2.1, .bool B.2.2, .int .i64 G.1, .int .i64 G.2.1, .bool G.2.2, .int .i64 D.1, .int .i64 D.2.1, .bool D.2.2, v2, nvY1, nvY2, (.slice fa nl fc), (.slice none 0 0)] := HSa.mid 3 (by decide) hgrow
          have hbm2 : Blk yb (w.heap.size + 1) 31 #[.int .i64 ta, .int .i64 al, .int .i64 be, .int .i64 ga, .int .i64 de] := (kps_grown hgrow).blk hqa2.2 (fun e => by have h1 := (hrow.lt _ e).1; omega)
          refine ⟨⟨hbm1, hbm2⟩, fun K hK => ?_⟩
          go_simp
          refine hK _ ?_
          clear hK K
          repeat (refine ord_float rfl rfl (fun K hK => ⟨_, (fun w' hw => by have q0 := hw.1.cell 15; have q1 :=  hw.2.cell 3; have q2 :=  hw.2.cell 4; go_simp; exact rfl), ?_⟩); go_simp; refine hK _ ?_; clear hK K)
          refine ord_nil ?_
          have HSn := HSa.step 3 (by decide) hown' hgrow hat
          obtain ⟨na, nc, hnv⟩ := row_form hown'
          subst hnv
          have hcy := hbm1.cell 15
          have hfy := hbm1.free 15
          refine last_store rfl rfl rfl (yb.setCell ⟨gO, 15, none⟩ (.slice na (nl + 1) nc)) (by go_simp <;> rfl) ?_
          have HSE : Hid (StM 35 3 40 gO w5 (yb.setCell ⟨gO, 15, none⟩ (.slice na (nl + 1) nc)) A B G D (vec5 nvY1 nvY2 v2 (.slice na (nl + 1) nc) (.slice none 0 0)) (vec5 (j + 1) (j + 1) ni (nl + 1) 0) (vec5 (sFldM (kW ls n ta 0) (j + 1)) (sFldM (kW ls n ta 1) (j + 1)) X2 (sFldM (fun j => kBy ls n ta al be (scInv de) (p + 1 + j)) (nl + 1)) [])) := by rw [HXL.out]; exact (by have h := HSn; rw [set5_3, set5_3, set5_3] at h; exact h)
          generalize (yb.setCell ⟨gO, 15, none⟩ (.slice na (nl + 1) nc)) = Y3 at HSE ⊢
          clear HSn hbm1 hbm2 hown' hgrow hat hcy hfy hrow hqa2 HSa HSz HSy hzk hqk hba HS6 hm63 hm47 CKL hqu0 hqu1 HXL
          generalize hqn : (Value.slice na (nl + 1) nc) = nvY3 at HSE
          clear hqn
          rw [← HX2.out] at HSE
          go_wp2_with fail
          go_roundw
          case rel => exact ⟨j + 1, ni, nl + 1, _, _, _, _, by go_num, hlt, ⟨by have := HN.out; omega, by have := HN.out; omega⟩, HSE⟩
          case measure => simp [intOf]; omega
      · have hlt' : ¬ (j : Int) < (wn : Int) := by omega
        have ejw : j = wn := by omega
        have eni : ni = p + 1 := by have := HN.out; omega
        have enl : nl = wn - p - 1 := by have := HN.out; omega
        subst ejw eni enl
        clear HN hKr hqa
        generalize wr = w6 at *
        -- the powers of Tau
        have CZ : Hid (∀ V, Calls Tryz.prog 84 #[.int .i64 (n : Int)] V fun e w' => ∃ u, e = .returned u ∧ ZOwn V.heap.size w'.heap.size w' u (zerL n) ∧ Below V.heap.size V w') := fun V => by
          have h := sZer_any (n : Int) V
          rw [pZer_nat hn16] at h
          exact h
        have CJ : Hid (∀ V, Calls Tryz.prog 82 #[.int .i64 de] V fun e w' => e = .returned (.int .i64 (scInv de)) ∧ V = w') := sScInv_any _
        have CM : Hid (∀ V, Calls Tryz.prog 81 #[.int .i64 (pAt (zerL n) ta), .int .i64 (scInv de)] V fun e w' => e = .returned (.int .i64 (kZ n ta (scInv de) 0)) ∧ V = w') := sScMul_any _ _
        have HZL : Hid ((zerL n).length ≤ 1048576) := zerL_len n
        have CA : Hid (∀ v X, ZAt X X.heap.size v (zerL n) → Calls Tryz.prog 83 #[v, .int .i64 ta] X fun e w' => e = .returned (.int .i64 (pAt (zerL n) ta)) ∧ Below X.heap.size X w') := fun v X h => sAt_any v _ ta HZL.out X h
        go_wp2_with fail
        clear qw
        have T0 : Below w6.heap.size w6 w6.drew := (Below.refl _ _).drew
        refine wp_region_ord [(0, false), (1, false), (2, false), (4, false), (5, false), (7, false), (8, false), (3, true), (6, true), (9, true), (10, true), (11, false)] (fun wz => Below w6.heap.size w6 wz) mixes (by kernel_rfl) T0 ?_
        repeat (refine ord_float rfl rfl (fun K hK => ⟨_, (fun w' hw => by have q0 := (hsy.on hw hsy.lt).cell 2; have q1 :=  (htx.on hw htx.lt).cell 0; have q2 :=  (htx.on hw htx.lt).cell 4; go_simp; exact rfl), ?_⟩); go_simp; refine hK _ ?_; clear hK K)
        refine ord_call rfl rfl (fun K hK => ⟨_, _, (by go_simp <;> first | exact rfl | exact ⟨rfl, rfl⟩), ?_⟩)
        refine (CZ.out _).mono ?_
        rintro e u1 ⟨zv, rfl, hZO, hu1⟩
        have T1 := below_then T0 hu1
        refine ⟨_, rfl, T1, ?_⟩
        go_simp
        refine hK _ _ ?_
        clear hK K
        have hZA := hZO.at
        obtain ⟨za, zc, hzv⟩ := row_form hZO.1
        subst hzv
        refine ord_call rfl rfl (fun K hK => ⟨_, _, (by go_simp <;> first | exact rfl | exact ⟨rfl, rfl⟩), ?_⟩)
        refine (CA.out _ _ hZA).mono ?_
        rintro e u2 ⟨rfl, hu2⟩
        have T2 := below_then T1 hu2
        refine ⟨_, rfl, T2, ?_⟩
        go_simp
        refine hK _ _ ?_
        clear hK K
        refine ord_call rfl rfl (fun K hK => ⟨_, _, (by go_simp <;> first | exact rfl | exact ⟨rfl, rfl⟩), ?_⟩)
        refine (CJ.out _).mono ?_
        rintro e u3 ⟨rfl, hu3⟩
        have T3 : Below w6.heap.size w6 u3 := hu3 ▸ T2
        refine ⟨_, rfl, T3, ?_⟩
        go_simp
        refine hK _ _ ?_
        clear hK K
        refine ord_call rfl rfl (fun K hK => ⟨_, _, (by go_simp <;> first | exact rfl | exact ⟨rfl, rfl⟩), ?_⟩)
        refine (CM.out _).mono ?_
        rintro e u4 ⟨rfl, hu4⟩
        have T4 : Below w6.heap.size w6 u4 := hu4 ▸ T3
        refine ⟨_, rfl, T4, ?_⟩
        go_simp
        refine hK _ _ ?_
        clear hK K
        repeat (refine ord_float rfl rfl (fun K hK => ⟨_, (fun w' hw => by have q0 := (hsy.on hw hsy.lt).cell 2; have q1 :=  (htx.on hw htx.lt).cell 0; have q2 :=  (htx.on hw htx.lt).cell 4; go_simp; exact rfl), ?_⟩); go_simp; refine hK _ ?_; clear hK K)
        refine ord_nil ?_
        have HS7 : Hid (StM 35 3 40 gO w5 u4 A B G D (vec5 v0 v1 v2 v3 (.slice none 0 0)) (vec5 j j (p + 1) (j - p - 1) 0) (vec5 (sFldM (kW ls n ta 0) j) (sFldM (kW ls n ta 1) j) (sFldM (kBy ls n ta al be (scInv ga)) (p + 1)) (sFldM (fun j => kBy ls n ta al be (scInv de) (p + 1 + j)) (j - p - 1)) (sFldM (kZ n ta (scInv de)) 0))) := HS.out.below T4
        have HMZ : Hid (∀ i V, Calls Tryz.prog 81 #[.int .i64 (kZ n ta (scInv de) i), .int .i64 ta] V fun e w' => e = .returned (.int .i64 (kZ n ta (scInv de) (i + 1))) ∧ V = w') := fun i V => sScMul_any _ _ V
        have HKZ : Hid (∀ i, sFldM (kZ n ta (scInv de)) (i + 1) = sFldM (kZ n ta (scInv de)) i ++ [.int .i64 (gx (kZ n ta (scInv de) i)).1, .int .i64 (gx (kZ n ta (scInv de) i)).2.1, .bool (gx (kZ n ta (scInv de) i)).2.2]) := fun i => sFldM_next _ _
        clear HS T0 T1 T2 T3 T4 hu1 hu2 hu3 hu4 hsy htx CZ CM CA CJ hZO hZA HT5
        generalize hx0 : sFldM (kW ls n ta 0) j = X0 at HS7 HEnd
        generalize hx1 : sFldM (kW ls n ta 1) j = X1 at HS7 HEnd
        generalize hx2 : sFldM (kBy ls n ta al be (scInv ga)) (p + 1) = X2 at HS7 HEnd
        generalize hx3 : sFldM (fun j => kBy ls n ta al be (scInv de) (p + 1 + j)) (j - p - 1) = X3 at HS7 HEnd
        clear hx0 hx1 hx2 hx3
        have hnb : (n : Int) ≤ 16 := by omega
        go_wp2_with fail
        go_loopw [13, 14] (fun pv_ iv wr => ∃ (i : Nat) (v4 : Value), pv_ = .int .i64 (kZ n ta (scInv de) i) ∧ iv = .int .i64 (i : Int) ∧ i + 1 ≤ n ∧ Hid (StM 35 3 40 gO w5 wr A B G D (vec5 v0 v1 v2 v3 v4) (vec5 j j (p + 1) (j - p - 1) i) (vec5 X0 X1 X2 X3 (sFldM (kZ n ta (scInv de)) i)))) (fun _ iv _ => n - (intOf iv).toNat)
        case atStart => exact ⟨0, _, rfl, rfl, hn1, HS7⟩
        case round =>
          obtain ⟨i, v4, rfl, rfl, hi4, HS8⟩ := hrel
          clear HS7
          generalize wr = Y1 at *
          have hsy8 : Blk Y1 w.heap.size 26 #[.int .i64 (j : Int), .int .i64 (p : Int), .slice a n c] := HS8.out.kps.blk H5.out.2.2.1 (by omega)
          have qs : Y1.cell? ⟨w.heap.size, 2, none⟩ = some (.slice a n c) := hsy8.cell 2
          clear hsy8
          have hi0 : (0 : Int) ≤ (i : Int) := by omega
          have hi16 : i ≤ 16 := by omega
          by_cases hlz : i + 1 < n
          · have hlz' : (i : Int) + 1 < (n : Int) := by omega
            have CM8 : Hid (∀ V, Calls Tryz.prog 81 #[.int .i64 (kZ n ta (scInv de) i), .int .i64 ta] V fun e w' => e = .returned (.int .i64 (kZ n ta (scInv de) (i + 1))) ∧ V = w') := HMZ.out i
            have HXX : Hid (sFldM (kZ n ta (scInv de)) (i + 1) = sFldM (kZ n ta (scInv de)) i ++ [.int .i64 (gx (kZ n ta (scInv de) i)).1, .int .i64 (gx (kZ n ta (scInv de) i)).2.1, .bool (gx (kZ n ta (scInv de) i)).2.2]) := HKZ.out i
            have CKZ : Hid (∀ V, Calls Tryz.prog 79 #[.int .i64 (kZ n ta (scInv de) i)] V fun e w' => e = .returned (.agg #[.int .i64 (gx (kZ n ta (scInv de) i)).1, .int .i64 (gx (kZ n ta (scInv de) i)).2.1, .bool (gx (kZ n ta (scInv de) i)).2.2]) ∧ Below V.heap.size V w') := fun V => by have h := sKey_any (kZ n ta (scInv de) i) V; rw [gx_key] at h; exact h
            obtain ⟨z2, hz2⟩ : ∃ z2, z2 = kZ n ta (scInv de) (i + 1) := ⟨_, rfl⟩
            have HZ2 : Hid (z2 = kZ n ta (scInv de) (i + 1)) := hz2
            rw [← hz2] at CM8
            clear hz2
            generalize gx (kZ n ta (scInv de) i) = PZ at CKZ HXX
            generalize kZ n ta (scInv de) i = z1 at CM8 CKZ ⊢
            generalize hx4 : sFldM (kZ n ta (scInv de)) i = X4 at HS8 HXX
            clear hx4
            obtain ⟨d1, d2, d3⟩ := PZ
            go_wp2_with fail
            clear qs
            obtain ⟨fa, fc, hfv⟩ := row_form (HS8.out.row.row 4 (by decide))
            replace hfv : v4 = .slice fa i fc := hfv
            have hm63 : i + 1 ≤ maxLen := by unfold maxLen; omega
            have hm47 : (i + 1) * 24 ≤ 140737488355328 := by omega
            subst hfv
            have hba : Blk Y1 gO 40 #[.int .i64 A.1, .int .i64 A.2.1, .bool A.2.2, .int .i64 B.1, .int .i64 B.2.1, .bool B.2.2, .int .i64 G.1, .int .i64 G.2.1, .bool G.2.2, .int .i64 D.1, .int .i64 D.2.1, .bool D.2.2, v2, v0, v1, v3, (.slice fa i fc)] ∧ Blk Y1 (w.heap.size + 1) 31 #[.int .i64 ta, .int .i64 al, .int .i64 be, .int .i64 ga, .int .i64 de] := ⟨HS8.out.blk, HS8.out.kps.blk H5.out.2.1 (by omega)⟩
            refine wp_region_last [(0, false), (1, false), (2, false), (3, true), (4, true), (5, true), (6, false)] 7 (fun wz => Blk wz gO 40 #[.int .i64 A.1, .int .i64 A.2.1, .bool A.2.2, .int .i64 B.1, .int .i64 B.2.1, .bool B.2.2, .int .i64 G.1, .int .i64 G.2.1, .bool G.2.2, .int .i64 D.1, .int .i64 D.2.1, .bool D.2.2, v2, v0, v1, v3, (.slice fa i fc)] ∧ Blk wz (w.heap.size + 1) 31 #[.int .i64 ta, .int .i64 al, .int .i64 be, .int .i64 ga, .int .i64 de]) mixes (by kernel_rfl) ⟨hba.1.drew, hba.2.drew⟩ ?_
            repeat (refine ord_float rfl rfl (fun K hK => ⟨_, (fun w' hw => by have q0 := hw.1.cell 16; have q1 :=  hw.2.cell 3; have q2 :=  hw.2.cell 4; go_simp; exact rfl), ?_⟩); go_simp; refine hK _ ?_; clear hK K)
            have HSy : StM 35 3 40 gO w5 Y1.drew A B G D (vec5 v0 v1 v2 v3 (.slice fa i fc)) (vec5 j j (p + 1) (j - p - 1) i) (vec5 X0 X1 X2 X3 X4) :=  HS8.out.below (Below.refl _ _).drew
            refine ord_call rfl rfl (fun K hK => ⟨_, _, (by go_simp <;> first | exact rfl | exact ⟨rfl, rfl⟩), ?_⟩)
            refine (CKZ.out _).mono ?_
            rintro e z0 ⟨rfl, hzk⟩
            have HSz : StM 35 3 40 gO w5 z0 A B G D (vec5 v0 v1 v2 v3 (.slice fa i fc)) (vec5 j j (p + 1) (j - p - 1) i) (vec5 X0 X1 X2 X3 X4) := HSy.below hzk
            have hqk : Blk z0 gO 40 #[.int .i64 A.1, .int .i64 A.2.1, .bool A.2.2, .int .i64 B.1, .int .i64 B.2.1, .bool B.2.2, .int .i64 G.1, .int .i64 G.2.1, .bool G.2.2, .int .i64 D.1, .int .i64 D.2.1, .bool D.2.2, v2, v0, v1, v3, (.slice fa i fc)] ∧ Blk z0 (w.heap.size + 1) 31 #[.int .i64 ta, .int .i64 al, .int .i64 be, .int .i64 ga, .int .i64 de] := ⟨HSz.blk, HSz.kps.blk H5.out.2.1 (by omega)⟩
            refine ⟨_, rfl, hqk, ?_⟩
            go_simp
            refine hK _ _ ?_
            clear hK K
            repeat (refine ord_float rfl rfl (fun K hK => ⟨_, (fun w' hw => by have q0 := hw.1.cell 16; have q1 :=  hw.2.cell 3; have q2 :=  hw.2.cell 4; go_simp; exact rfl), ?_⟩); go_simp; refine hK _ ?_; clear hK K)
            have HSa := HSz.alloc (.cells #[.int .i64 d1, .int .i64 d2, .bool d3] 35)
            have hqa2 : Blk (z0.alloc (.cells #[.int .i64 d1, .int .i64 d2, .bool d3] 35)) gO 40 #[.int .i64 A.1, .int .i64 A.2.1, .bool A.2.2, .int .i64 B.1, .int .i64 B.2.1, .bool B.2.2, .int .i64 G.1, .int .i64 G.2.1, .bool G.2.2, .int .i64 D.1, .int .i64 D.2.1, .bool D.2.2, v2, v0, v1, v3, (.slice fa i fc)] ∧ Blk (z0.alloc (.cells #[.int .i64 d1, .int .i64 d2, .bool d3] 35)) (w.heap.size + 1) 31 #[.int .i64 ta, .int .i64 al, .int .i64 be, .int .i64 ga, .int .i64 de] := ⟨HSa.blk, HSa.kps.blk H5.out.2.1 (by omega)⟩
            refine ord_op rfl rfl (fun K hK => ⟨.slice (some ⟨z0.heap.size, 0, none⟩) 1 1, (z0.alloc (.cells #[.int .i64 d1, .int .i64 d2, .bool d3] 35)), (by go_simp <;> rfl), hqa2, ?_⟩)
            go_simp
            refine hK _ _ ?_
            clear hK K
            have hrow : (z0.alloc (.cells #[.int .i64 d1, .int .i64 d2, .bool d3] 35)).ownsRow w5.heap.size 35 3 (.slice fa i fc) i X4 := HSa.row.row 4 (by decide)
            refine ord_append rfl rfl _ _ 36 rfl w5.heap.size 35 i0 (.agg #[.int .i64 0, .int .i64 0, .bool false]) 3 24 Tryz.underlying36 hi hz0 hz1 hz2 rfl (by decide) _ _ _ rfl hrow ⟨z0.heap.size, 0, none⟩ 1 1 [.int .i64 d1, .int .i64 d2, .bool d3] rfl rfl (cell_three_new _ _ _ _ _) (three_cell _ _ _) hm63 hm47 HSa.kps.size ?_
            intro nv yb hown' hgrow hat
            have hbm1 : Blk yb gO 40 #[.int .i64 A.1, .int .i64 A.2.1, .bool A.2.2, .int .i64 B.1, .int .i64 B.2.1, .bool B.2.2, .int .i64 G.1, .int .i64 G.2.1, .bool G.2.2, .int .i64 D.1, .int .i64 D.2.1, .bool D.2.2, v2, v0, v1, v3, (.slice fa i fc)] := HSa.mid 4 (by decide) hgrow
            have hbm2 : Blk yb (w.heap.size + 1) 31 #[.int .i64 ta, .int .i64 al, .int .i64 be, .int .i64 ga, .int .i64 de] := (kps_grown hgrow).blk hqa2.2 (fun e => by have h1 := (hrow.lt _ e).1; omega)
            refine ⟨⟨hbm1, hbm2⟩, fun K hK => ?_⟩
            go_simp
            refine hK _ ?_
            clear hK K
            repeat (refine ord_float rfl rfl (fun K hK => ⟨_, (fun w' hw => by have q0 := hw.1.cell 16; have q1 :=  hw.2.cell 3; have q2 :=  hw.2.cell 4; go_simp; exact rfl), ?_⟩); go_simp; refine hK _ ?_; clear hK K)
            refine ord_nil ?_
            have HSn := HSa.step 4 (by decide) hown' hgrow hat
            obtain ⟨na, nc, hnv⟩ := row_form hown'
            subst hnv
            have hcy := hbm1.cell 16
            have hfy := hbm1.free 16
            refine last_store rfl rfl rfl (yb.setCell ⟨gO, 16, none⟩ (.slice na (i + 1) nc)) (by go_simp <;> rfl) ?_
            have HSE : Hid (StM 35 3 40 gO w5 (yb.setCell ⟨gO, 16, none⟩ (.slice na (i + 1) nc)) A B G D (vec5 v0 v1 v2 v3 (.slice na (i + 1) nc)) (vec5 j j (p + 1) (j - p - 1) (i + 1)) (vec5 X0 X1 X2 X3 (sFldM (kZ n ta (scInv de)) (i + 1)))) := by rw [HXX.out]; exact (HSn.like (set5_4 _ _ _ _ _ _) (set5_4 _ _ _ _ _ _) (set5_4 _ _ _ _ _ _))
            generalize (yb.setCell ⟨gO, 16, none⟩ (.slice na (i + 1) nc)) = Y2 at HSE ⊢
            clear HSn hbm1 hbm2 hown' hgrow hat hcy hfy hrow hqa2 HSa HSz HSy hzk hqk hba HS8 hm63 hm47 CKZ  HXX
            generalize hqn : (Value.slice na (i + 1) nc) = nvY2 at HSE
            clear hqn
            have htx9 : Blk Y2 (w.heap.size + 1) 31 #[.int .i64 ta, .int .i64 al, .int .i64 be, .int .i64 ga, .int .i64 de] := HSE.out.kps.blk H5.out.2.1 (by omega)
            have q0 : Y2.cell? ⟨w.heap.size + 1, 0, none⟩ = some (.int .i64 ta) := htx9.cell 0
            clear htx9
            go_wp2_with (go_at_call 81; refine (CM8.out _).mono ?_; rintro e wz ⟨rfl, rfl⟩)
            go_roundw
            case rel => exact ⟨i + 1, _, by rw [HZ2.out], by go_num, hlz, HSE⟩
            case measure => simp [intOf]; omega
          · have hlz' : ¬ (i : Int) + 1 < (n : Int) := by omega
            have ei : n - 1 = i := by omega
            have hres : Blk Y1 (w.heap.size + 1 + 1) 40 #[.int .i64 0, .int .i64 0, .bool false, .int .i64 0, .int .i64 0, .bool false, .int .i64 0, .int .i64 0, .bool false, .int .i64 0, .int .i64 0, .bool false, .slice none 0 0, .slice none 0 0, .slice none 0 0, .slice none 0 0, .slice none 0 0] := HS8.out.kps.blk H5.out.2.2.2.1 (by omega)
            have hBw : Below w.heap.size w Y1 := HS8.out.kps.bel H5.out.1 H5.out.1.size (fun k e => by omega)
            have hsw : w.heap.size ≤ w5.heap.size := H5.out.1.size
            rw [ei] at HEnd
            obtain ⟨f0, c0, hf0⟩ := row_form (HS8.out.row.row 0 (by decide))
            replace hf0 : v0 = .slice f0 j c0 := hf0
            obtain ⟨f1, c1, hf1⟩ := row_form (HS8.out.row.row 1 (by decide))
            replace hf1 : v1 = .slice f1 j c1 := hf1
            obtain ⟨f2, c2, hf2⟩ := row_form (HS8.out.row.row 2 (by decide))
            replace hf2 : v2 = .slice f2 (p + 1) c2 := hf2
            obtain ⟨f3, c3, hf3⟩ := row_form (HS8.out.row.row 3 (by decide))
            replace hf3 : v3 = .slice f3 (j - p - 1) c3 := hf3
            obtain ⟨f4, c4, hf4⟩ := row_form (HS8.out.row.row 4 (by decide))
            replace hf4 : v4 = .slice f4 i c4 := hf4
            subst hf0 hf1 hf2 hf3 hf4
            have hq : Blk Y1 gO 40 #[.int .i64 A.1, .int .i64 A.2.1, .bool A.2.2, .int .i64 B.1, .int .i64 B.2.1, .bool B.2.2, .int .i64 G.1, .int .i64 G.2.1, .bool G.2.2, .int .i64 D.1, .int .i64 D.2.1, .bool D.2.2, .slice f2 (p + 1) c2, .slice f0 j c0, .slice f1 j c1, .slice f3 (j - p - 1) c3, .slice f4 i c4] := HS8.out.blk
            have hgl : w.heap.size + 1 + 1 ≠ gO := by omega
            go_wp2_with (first | (refine load_blk rfl rfl rfl hq Tryz.underlying40 infoMkS ?_) | (refine store_blkS (cs' := #[.int .i64 A.1, .int .i64 A.2.1, .bool A.2.2, .int .i64 B.1, .int .i64 B.2.1, .bool B.2.2, .int .i64 G.1, .int .i64 G.2.1, .bool G.2.2, .int .i64 D.1, .int .i64 D.2.1, .bool D.2.2, .slice f2 (p + 1) c2, .slice f0 j c0, .slice f1 j c1, .slice f3 (j - p - 1) c3, .slice f4 i c4]) rfl rfl rfl rfl rfl hres infoMkS rfl (by simp [Value.oneCell']) ?_; intro V8 h8 hheap hoth hbel; have hb8 := hbel _ _ (by omega) hBw; have hb9 := hbel 0 Y1 (Nat.zero_le _) (Below.refl _ _); clear hoth hbel))
            refine bodyPost_ret_by (result_Btmp rfl rfl rfl h8 Tryz.underlying40 infoMkS) rfl (HEnd.out _ _ ⟨_, _, _, _, _, rfl, ?_, hb8⟩)
            exact (HS8.out.row.kept (S := fun k => k = w.heap.size + 1 + 1) ⟨hb9.os, hb9.tape, hb9.output, hb9.size, fun k _ hne => hheap k hne⟩ (fun k hk e => by omega)).low hsw

end Go.Proofs.YthnahalboomkoaaGreat
