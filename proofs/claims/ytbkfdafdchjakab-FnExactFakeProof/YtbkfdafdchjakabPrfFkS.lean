/-
  The walk of the specification's proof without a witness.
  (-DROP-: what the seat lacks is left out.)
-/
import Derived.Test.YtbkfdafdchjakabJoined16
import Derived.Test.YtbkfdafdchjakabJoined26
import Derived.Test.YtbkfdafdchjakabJoined5
import Derived.Test.YtbkfdafdchjakabJoined28
import Derived.Test.YtbkfdafdchjakabJoined7

namespace Go.Proofs.Ytbkfdafdchjakab
open Go.RowKit

theorem infoPrF : (Try.prog.info? 39).map (·.size) = some 9 := by kernel_rfl
theorem infoTxF : (Try.prog.info? 56).map (·.size) = some 5 := by kernel_rfl
theorem onesPrF (A B C : Pt) : (prfC A B C).all (·.oneCell') = true := by simp [prfC, Value.oneCell']
theorem sWireK_any (ls : List (List Int)) (n wn : Nat) (a0 : Option Addr) (c0 : Nat) (a1 : Option Addr) (c1 : Nat) (a2 : Option Addr) (c2 : Nat) (ta al be ga de : Int) (j : Nat) (hj : j < wn) (w : World)
    (hU : NAt 1 w w.heap.size (.slice a0 wn c0) wn (qapN ls n 0 wn)) (hV : NAt 1 w w.heap.size (.slice a1 wn c1) wn (qapN ls n 1 wn)) (hX : NAt 1 w w.heap.size (.slice a2 wn c2) wn (qapN ls n 2 wn)) :
    Calls Try.prog 46 #[.agg #[.slice a0 wn c0, .slice a1 wn c1, .slice a2 wn c2], .agg #[.int .i64 ta, .int .i64 al, .int .i64 be, .int .i64 ga, .int .i64 de], .int .i64 (j : Int)] w fun e w' => e = .returned (.tuple #[.int .i64 (kW ls n ta 0 j), .int .i64 (kW ls n ta 1 j), .int .i64 (kAll ls n ta al be j)]) ∧ Below w.heap.size w w' := by
  have h := sWire_any a0 c0 a1 c1 a2 c2 wn _ _ _ (qapN_small ls n 0 wn) (qapN_small ls n 1 wn) (qapN_small ls n 2 wn) ta al be ga de j hj w hU hV hX
  rw [qapN_at ls n 0 wn j hj, qapN_at ls n 1 wn j hj, qapN_at ls n 2 wn j hj] at h
  exact h

/-- What lives beside the walk of keys. -/
structure QpSt (w wr : World) (gq : Nat) (wi pu : Int) (a : Option Addr) (n c : Nat) (ta al be ga de : Int) (ls : List (List Int)) (wn : Nat) (ua : Option Addr) (uc : Nat) (va : Option Addr) (vc : Nat) (xa : Option Addr) (xc : Nat) : Prop where
  bel : Below w.heap.size w wr
  sys : Blk wr w.heap.size 54 #[.int .i64 wi, .int .i64 pu, .slice a n c]
  tox : Blk wr (w.heap.size + 1) 56 #[.int .i64 ta, .int .i64 al, .int .i64 be, .int .i64 ga, .int .i64 de]
  qap : Blk wr gq 87 #[.slice ua wn uc, .slice va wn vc, .slice xa wn xc]
  nu : NAt 1 wr wr.heap.size (.slice ua wn uc) wn (qapN ls n 0 wn)
  nv : NAt 1 wr wr.heap.size (.slice va wn vc) wn (qapN ls n 1 wn)
  nx : NAt 1 wr wr.heap.size (.slice xa wn xc) wn (qapN ls n 2 wn)
theorem QpSt.on {w wr wr' : World} {gq : Nat} {wi pu : Int} {a : Option Addr} {n c : Nat} {ta al be ga de : Int} {ls : List (List Int)} {wn : Nat} {ua : Option Addr} {uc : Nat} {va : Option Addr} {vc : Nat} {xa : Option Addr} {xc : Nat} (h : QpSt w wr gq wi pu a n c ta al be ga de ls wn ua uc va vc xa xc) (hb : Below wr.heap.size wr wr') : QpSt w wr' gq wi pu a n c ta al be ga de ls wn ua uc va vc xa xc :=
  ⟨h.bel.trans (hb.mono h.bel.size), h.sys.on hb h.sys.lt, h.tox.on hb h.tox.lt, h.qap.on hb h.qap.lt, (h.nu.on hb).wide hb.size, (h.nv.on hb).wide hb.size, (h.nx.on hb).wide hb.size⟩

set_option maxHeartbeats 12800000 in
set_option maxRecDepth 100000 in
theorem sFake_any (wi pu : Int) (hwf : (Lit.int .i64 wi).wf = true) (a : Option Addr) (n c : Nat) (hn : n ≤ 9223372036854775807) (ls : List (List Int)) (hz : ∀ j, (ls.getD j []).length ≤ 9223372036854775807) (ta al be ga de : Int) (am : Option Addr) (cm : Nat) (m : List Int) (hm : m.length ≤ 9223372036854775807) (x y : Int) (w : World) (hA : NAt 3 w w.heap.size (.slice a n c) n ls) (hB : IntsAt w am m.length w.heap.size (fun j => m.getD j 0)) :
    Calls Try.prog 16 #[.agg #[.int .i64 wi, .int .i64 pu, .slice a n c], .agg #[.int .i64 ta, .int .i64 al, .int .i64 be, .int .i64 ga, .int .i64 de], .slice am m.length cm, .int .i64 x, .int .i64 y] w fun e w' => e = .returned (.tuple #[.agg (prfC (fkPt (fkB wi pu n ls ta al be ga de m.length x y) x) (fkPt (fkB wi pu n ls ta al be ga de m.length x y) y) (fkPt (fkB wi pu n ls ta al be ga de m.length x y) (fkV ls n ta al be de (fun j => m.getD j 0) pu.toNat x y))), .bool (fkB wi pu n ls ta al be ga de m.length x y)]) ∧ Below w.heap.size w w' := by
  obtain ⟨W, hW, hb, hs, hr, ho⟩ := boxes2r w 54 56 39 #[.int .i64 wi, .int .i64 pu, .slice a n c] #[.int .i64 ta, .int .i64 al, .int .i64 be, .int .i64 ga, .int .i64 de] #[.int .i64 0, .int .i64 0, .bool false, .int .i64 0, .int .i64 0, .bool false, .int .i64 0, .int .i64 0, .bool false]
  have CT : Hid (∀ V, Below w.heap.size w V → Calls Try.prog 43 #[.agg #[.int .i64 wi, .int .i64 pu, .slice a n c], .agg #[.int .i64 ta, .int .i64 al, .int .i64 be, .int .i64 ga, .int .i64 de]] V fun e w' => e = .returned (.bool (toxB wi pu n ls ta al be ga de)) ∧ Below V.heap.size V w') := fun V hV => sToxic_any wi pu hwf a n c hn ls hz ta al be ga de V ((hA.on hV).wide hV.size)
  have CQ : Hid (∀ V, Below w.heap.size w V → Calls Try.prog 45 #[.agg #[.int .i64 wi, .int .i64 pu, .slice a n c]] V fun e w' => QapEnd V wi pu n ls e w') := fun V hV => sQapOf_any wi pu hwf a n c hn ls hz V ((hA.on hV).wide hV.size)
  have CX : Hid (∀ w, Calls Try.prog 44 #[.int .i64 x] w fun e w' => e = .returned (.bool (scalB x)) ∧ w = w') := sScal_any x
  have CY : Hid (∀ w, Calls Try.prog 44 #[.int .i64 y] w fun e w' => e = .returned (.bool (scalB y)) ∧ w = w') := sScal_any y
  have HBM : Hid (IntsAt w am m.length w.heap.size (fun j => m.getD j 0)) := hB
  obtain ⟨q, hq⟩ : ∃ q, q = fkB wi pu n ls ta al be ga de m.length x y := ⟨_, rfl⟩
  obtain ⟨v, hv⟩ : ∃ v, v = fkV ls n ta al be de (fun j => m.getD j 0) pu.toNat x y := ⟨_, rfl⟩
  rw [← hq, ← hv]
  have HQ : Hid (q = (toxB wi pu n ls ta al be ga de && (scalB x && (scalB y && decide ((m.length : Int) = pu))))) := hq
  have HV : Hid (v = fkV ls n ta al be de (fun j => m.getD j 0) pu.toNat x y) := hv
  have HN : Hid (∀ (e : Ending) (w' : World), q = false → e = .returned (.tuple #[.agg #[.int .i64 0, .int .i64 0, .bool false, .int .i64 0, .int .i64 0, .bool false, .int .i64 0, .int .i64 0, .bool false], .bool false]) → Below w.heap.size w w' → e = .returned (.tuple #[.agg (prfC (fkPt q x) (fkPt q y) (fkPt q v)), .bool q]) ∧ Below w.heap.size w w') := fun e w' hq h1 h2 => by subst hq; exact ⟨h1, h2⟩
  have H0 : Hid (Below w.heap.size w W ∧ Blk W w.heap.size 54 #[.int .i64 wi, .int .i64 pu, .slice a n c] ∧ Blk W (w.heap.size + 1) 56 #[.int .i64 ta, .int .i64 al, .int .i64 be, .int .i64 ga, .int .i64 de] ∧ Blk W (w.heap.size + 1 + 1) 39 #[.int .i64 0, .int .i64 0, .bool false, .int .i64 0, .int .i64 0, .bool false, .int .i64 0, .int .i64 0, .bool false]) := ⟨hb, hs, hr, ho⟩
  have hs1 : w.heap.size + 1 + 1 < W.heap.size := ho.lt
  clear hA hb hz ho hn hwf hB hq hv
  obtain ⟨ml, hml⟩ : ∃ ml, ml = m.length := ⟨_, rfl⟩
  rw [← hml] at HBM HQ hm ⊢
  clear hml
  go_enter Try.func16, Try.ntmps16
  go_wp2_with (first | (refine load_blk rfl rfl rfl hs Try.underlying54 infoSy ?_) | (refine load_blk rfl rfl rfl hr Try.underlying56 infoTxF ?_))
  clear hW hs hr
  refine (CT.out _ H0.out.1).mono ?_
  rintro e w1 ⟨rfl, hb1⟩
  have hB1 := H0.out.1.trans (hb1.mono H0.out.1.size)
  have hy1 := H0.out.2.1.on hb1 H0.out.2.1.lt
  have ht1 := H0.out.2.2.1.on hb1 H0.out.2.2.1.lt
  have hm1 := H0.out.2.2.2.on hb1 H0.out.2.2.2.lt
  have hs2 : w.heap.size + 1 + 1 < w1.heap.size := hm1.lt
  clear H0 hb1 hs1 CT
  cases htx : toxB wi pu n ls ta al be ga de
  · skip
    have HE : Hid (q = false) := by show _ = _; rw [HQ.out, htx]; rfl
    go_wp2_with (refine store_blkS (cs' := #[.int .i64 0, .int .i64 0, .bool false, .int .i64 0, .int .i64 0, .bool false, .int .i64 0, .int .i64 0, .bool false]) rfl rfl rfl rfl rfl hm1 infoPrF rfl (onesPrF (0, 0, false) (0, 0, false) (0, 0, false)) ?_; intro V8 h8 hheap hoth hbel; have hb8 := hbel _ _ (by omega) hB1; clear hoth hbel hheap)
    refine bodyPost_ret_by (result_Btmp rfl rfl rfl h8 Try.underlying39 infoPrF) rfl (HN.out _ _ HE.out rfl hb8)
  · obtain ⟨hso, hTx⟩ := tox_iff.1 htx
    have hS := sides_of hso
    obtain ⟨p, hp⟩ : ∃ p, pu.toNat = p := ⟨_, rfl⟩
    obtain ⟨wn, hwn⟩ : ∃ wn, wi.toNat = wn := ⟨_, rfl⟩
    rw [hp, hwn] at hS
    rw [hp] at HV
    have hpw : p + 1 ≤ wn := hS.told
    have hw20 : wn ≤ 20 := hS.one.2
    have epu : pu = (p : Int) := hS.pu
    have HSO : Hid (sysOk wi pu n ls = true) := hso
    rw [htx] at HQ
    subst epu
    clear htx hso hTx hS hp
    go_wp2_with fail
    refine (CX.out _).mono ?_
    rintro e w4 ⟨rfl, rfl⟩
    cases hx : scalB x
    · skip
      have HE : Hid (q = false) := by show _ = _; rw [HQ.out, hx]; rfl
      go_wp2_with (refine store_blkS (cs' := #[.int .i64 0, .int .i64 0, .bool false, .int .i64 0, .int .i64 0, .bool false, .int .i64 0, .int .i64 0, .bool false]) rfl rfl rfl rfl rfl hm1 infoPrF rfl (onesPrF (0, 0, false) (0, 0, false) (0, 0, false)) ?_; intro V8 h8 hheap hoth hbel; have hb8 := hbel _ _ (by omega) hB1; clear hoth hbel hheap)
      refine bodyPost_ret_by (result_Btmp rfl rfl rfl h8 Try.underlying39 infoPrF) rfl (HN.out _ _ HE.out rfl hb8)
    · go_wp2_with fail
      refine (CY.out _).mono ?_
      rintro e w4 ⟨rfl, rfl⟩
      cases hy : scalB y
      · skip
        have HE : Hid (q = false) := by show _ = _; rw [HQ.out, hx, hy]; rfl
        go_wp2_with (refine store_blkS (cs' := #[.int .i64 0, .int .i64 0, .bool false, .int .i64 0, .int .i64 0, .bool false, .int .i64 0, .int .i64 0, .bool false]) rfl rfl rfl rfl rfl hm1 infoPrF rfl (onesPrF (0, 0, false) (0, 0, false) (0, 0, false)) ?_; intro V8 h8 hheap hoth hbel; have hb8 := hbel _ _ (by omega) hB1; clear hoth hbel hheap)
        refine bodyPost_ret_by (result_Btmp rfl rfl rfl h8 Try.underlying39 infoPrF) rfl (HN.out _ _ HE.out rfl hb8)
      · have q1 : w1.cell? ⟨w.heap.size, 1, none⟩ = some (.int .i64 (p : Int)) := hy1.cell 1
        by_cases hmp : ml = p
        · subst hmp
          have HE : Hid (q = true) := by show _ = _; rw [HQ.out, hx, hy]; simp
          have HZ : Hid (∀ (e : Ending) (w' : World), e = .returned (.tuple #[.agg (prfC (gx x) (gx y) (gx v)), .bool true]) → Below w.heap.size w w' → e = .returned (.tuple #[.agg (prfC (fkPt q x) (fkPt q y) (fkPt q v)), .bool q]) ∧ Below w.heap.size w w') := fun e w' h1 h2 => by rw [HE.out]; exact ⟨h1, h2⟩
          have HGV : Hid (keyP (scMul (scAdd (scAdd (scMul x y) (scNeg (scMul al be))) (scNeg (fkS ls n ta al be (fun j => m.getD j 0) ml))) (scInv de)) = gx v) := by
            show _ = _
            rw [gx_key, HV.out]
            exact gx_dp (fkSpec_dp ls n ta al be de _ ml x y)
          clear HQ hx hy HE HN CX CY HV
          go_wp2_with (refine load_blk rfl rfl rfl hy1 Try.underlying54 infoSy ?_)
          clear q1
          refine (CQ.out _ hB1).mono ?_
          rintro e w5 (⟨h0, _⟩ | ⟨_, U, V, X, us, vs, xs, rfl, hTri, hb5⟩)
          · rw [HSO.out] at h0; cases h0
          rw [hwn] at hTri
          obtain ⟨ua, uc, hUv⟩ := row_form hTri.u.row
          obtain ⟨va, vc, hVv⟩ := row_form hTri.v.row
          obtain ⟨xa, xc, hXv⟩ := row_form hTri.x.row
          subst hUv hVv hXv
          have hB5 := hB1.trans (hb5.mono hB1.size)
          have hy5 := hy1.on hb5 hy1.lt
          have ht5 := ht1.on hb5 ht1.lt
          have hm5 := hm1.on hb5 hm1.lt
          have NU := hTri.u.at
          have NV := hTri.v.at
          have NX := hTri.x.at
          have hs5 : w1.heap.size ≤ w5.heap.size := hb5.size
          clear hTri hb5 hB1 hy1 ht1 hm1 CQ HSO hwn
          obtain ⟨V0, hV0, hb0, hs0⟩ := box1 w5 87 #[.slice none 0 0, .slice none 0 0, .slice none 0 0]
          have K0 : Hid (∀ V1, Blk V1 w5.heap.size 87 #[.slice ua wn uc, .slice va wn vc, .slice xa wn xc] → Below w5.heap.size w5 V1 → QpSt w V1 w5.heap.size wi (ml : Int) a n c ta al be ga de ls wn ua uc va vc xa xc ∧ Blk V1 (w.heap.size + 1 + 1) 39 #[.int .i64 0, .int .i64 0, .bool false, .int .i64 0, .int .i64 0, .bool false, .int .i64 0, .int .i64 0, .bool false]) := fun V1 hq hb => ⟨⟨hB5.trans (hb.mono hB5.size), hy5.on hb hy5.lt, ht5.on hb ht5.lt, hq, (NU.on hb).wide hb.size, (NV.on hb).wide hb.size, (NX.on hb).wide hb.size⟩, hm5.on hb hm5.lt⟩
          clear NU NV NX hB5 hy5 hm5
          go_wp2_with (first | (refine store_blkS (cs' := #[.slice ua wn uc, .slice va wn vc, .slice xa wn xc]) rfl rfl rfl rfl rfl hs0 infoQa rfl (onesQa _ _ _ _ _ _ _ _ _) ?_; intro V1 hq1 hheap hoth hbel; have hbv1 := hbel _ _ (Nat.le_refl _) hb0; have hK1 := K0.out V1 hq1 hbv1; have hq2 := hK1.1.qap; have ht2 := hK1.1.tox; clear hoth hbel hheap) | (refine load_blk rfl rfl rfl hq2 Try.underlying87 infoQa ?_) | (refine load_blk rfl rfl rfl ht2 Try.underlying56 infoTxF ?_))
          have HW : Hid (∀ (j : Nat) (wr : World), j < wn → QpSt w wr w5.heap.size wi (ml : Int) a n c ta al be ga de ls wn ua uc va vc xa xc → Calls Try.prog 46 #[.agg #[.slice ua wn uc, .slice va wn vc, .slice xa wn xc], .agg #[.int .i64 ta, .int .i64 al, .int .i64 be, .int .i64 ga, .int .i64 de], .int .i64 (j : Int)] wr fun e w' => e = .returned (.tuple #[.int .i64 (kW ls n ta 0 j), .int .i64 (kW ls n ta 1 j), .int .i64 (kAll ls n ta al be j)]) ∧ Below wr.heap.size wr w') := fun j wr hj h => sWireK_any ls n wn ua uc va vc xa xc ta al be ga de j hj wr h.nu h.nv h.nx
          have C0 := HW.out 0 V1 (by omega) hK1.1
          clear hV0 hs0 hb0 hq1 hbv1 hq2 ht2 K0 ht5
          refine C0.mono ?_
          rintro e w6 ⟨rfl, hb6⟩
          have H6 : Hid (QpSt w w6 w5.heap.size wi (ml : Int) a n c ta al be ga de ls wn ua uc va vc xa xc ∧ Blk w6 (w.heap.size + 1 + 1) 39 #[.int .i64 0, .int .i64 0, .bool false, .int .i64 0, .int .i64 0, .bool false, .int .i64 0, .int .i64 0, .bool false]) := ⟨hK1.1.on hb6, hK1.2.on hb6 hK1.2.lt⟩
          clear hK1 hb6 C0
          go_wp2_with fail
          go_loopw [16, 17] (fun s i wr => ∃ k : Nat, s = .int .i64 (fkS ls n ta al be (fun j => m.getD j 0) k) ∧ i = .int .i64 ((k : Int) + 1) ∧ k ≤ ml ∧ Hid (QpSt w wr w5.heap.size wi (ml : Int) a n c ta al be ga de ls wn ua uc va vc xa xc ∧ Blk wr (w.heap.size + 1 + 1) 39 #[.int .i64 0, .int .i64 0, .bool false, .int .i64 0, .int .i64 0, .bool false, .int .i64 0, .int .i64 0, .bool false])) (fun _ i _ => ml + 1 - (intOf i).toNat)
          case atStart => exact ⟨0, rfl, rfl, Nat.zero_le _, H6⟩
          case round =>
            obtain ⟨k, rfl, rfl, hk, HS⟩ := hrel
            clear H6
            have q1 : wr.cell? ⟨w.heap.size, 1, none⟩ = some (.int .i64 (ml : Int)) := HS.out.1.sys.cell 1
            by_cases hlt : k < ml
            · have hle : (k : Int) + 1 ≤ (ml : Int) := by omega
              have hq2 := HS.out.1.qap
              have ht2 := HS.out.1.tox
              have C1 : Hid (Calls Try.prog 46 #[.agg #[.slice ua wn uc, .slice va wn vc, .slice xa wn xc], .agg #[.int .i64 ta, .int .i64 al, .int .i64 be, .int .i64 ga, .int .i64 de], .int .i64 ((k : Int) + 1)] wr fun e w' => e = .returned (.tuple #[.int .i64 (kW ls n ta 0 (k + 1)), .int .i64 (kW ls n ta 1 (k + 1)), .int .i64 (kAll ls n ta al be (k + 1))]) ∧ Below wr.heap.size wr w') := HW.out (k + 1) wr (by omega) HS.out.1
              have CM : Hid (∀ w, Calls Try.prog 48 #[.int .i64 (m.getD k 0), .int .i64 (kAll ls n ta al be (k + 1))] w fun e w' => e = .returned (.int .i64 (scMul (m.getD k 0) (kAll ls n ta al be (k + 1)))) ∧ w = w') := sScMul_any _ _
              have CA : Hid (∀ w, Calls Try.prog 47 #[.int .i64 (fkS ls n ta al be (fun j => m.getD j 0) k), .int .i64 (scMul (m.getD k 0) (kAll ls n ta al be (k + 1)))] w fun e w' => e = .returned (.int .i64 (fkS ls n ta al be (fun j => m.getD j 0) (k + 1))) ∧ w = w') := sScAdd_any _ _
              generalize fkS ls n ta al be (fun j => m.getD j 0) k = s0 at CA
              obtain ⟨s1, hs1⟩ : ∃ s1, s1 = fkS ls n ta al be (fun j => m.getD j 0) (k + 1) := ⟨_, rfl⟩
              rw [← hs1] at CA
              have HS1 : Hid (s1 = fkS ls n ta al be (fun j => m.getD j 0) (k + 1)) := hs1
              clear hs1
              obtain ⟨b1, o1, rfl, hb1, c1⟩ := (HBM.out.on HS.out.1.bel) k hlt
              replace c1 : wr.cell? ⟨b1, o1 + k, none⟩ = some (.int .i64 (m.getD k 0)) := c1
              have hk0 : (0 : Int) ≤ (k : Int) := by omega
              have hk1 : (k : Int) < (ml : Int) := by omega
              generalize scMul (m.getD k 0) (kAll ls n ta al be (k + 1)) = pr at CM CA
              generalize kAll ls n ta al be (k + 1) = kk at C1 CM
              generalize m.getD k 0 = mk at CM c1
              generalize kW ls n ta 0 (k + 1) = k0 at C1
              generalize kW ls n ta 1 (k + 1) = k1 at C1
              have hw1 : IntKind.i64.wrap ((k : Int) + 1 - 1) = (k : Int) := by rw [show (k : Int) + 1 - 1 = (k : Int) by omega]; exact IntWalk.i64_in _ (by omega)
              have hw2 : IntKind.i64.wrap ((k : Int) + 1 + 1) = (k : Int) + 1 + 1 := IntWalk.i64_in _ (by omega)
              go_wp2_with (first | (refine load_blk rfl rfl rfl hq2 Try.underlying87 infoQa ?_) | (refine load_blk rfl rfl rfl ht2 Try.underlying56 infoTxF ?_))
              refine C1.out.mono ?_
              rintro e w7 ⟨rfl, hb7⟩
              have H7 : Hid (QpSt w w7 w5.heap.size wi (ml : Int) a n c ta al be ga de ls wn (ua) uc va vc xa xc ∧ Blk w7 (w.heap.size + 1 + 1) 39 #[.int .i64 0, .int .i64 0, .bool false, .int .i64 0, .int .i64 0, .bool false, .int .i64 0, .int .i64 0, .bool false]) := ⟨HS.out.1.on hb7, HS.out.2.on hb7 HS.out.2.lt⟩
              have c7 : w7.cell? ⟨b1, o1 + k, none⟩ = some (.int .i64 mk) := (hb7.cell (p := ⟨b1, o1 + k, none⟩) (by show b1 < _; have := HS.out.1.bel.size; omega)).trans c1
              clear HS hb7 C1 hq2 ht2 q1 c1
              go_wp2_with fail
              refine (CM.out _).mono ?_
              rintro e w8 ⟨rfl, rfl⟩
              go_wp2_with fail
              refine (CA.out _).mono ?_
              rintro e w8 ⟨rfl, rfl⟩
              go_wp2
              go_roundw
              case rel => exact ⟨k + 1, by rw [HS1.out], by go_num, hlt, H7⟩
              case measure => simp [intOf]; omega
            · have hle : ¬ (k : Int) + 1 ≤ (ml : Int) := by omega
              have hk2 : k = ml := by omega
              subst hk2
              have ht2 := HS.out.1.tox
              have hm2 := HS.out.2
              have hB2 := HS.out.1.bel
              clear HS HW
              have M1 : Hid (∀ w, Calls Try.prog 48 #[.int .i64 x, .int .i64 y] w fun e w' => e = .returned (.int .i64 (scMul x y)) ∧ w = w') := sScMul_any _ _
              have M2 : Hid (∀ w, Calls Try.prog 48 #[.int .i64 al, .int .i64 be] w fun e w' => e = .returned (.int .i64 (scMul al be)) ∧ w = w') := sScMul_any _ _
              have N1 : Hid (∀ w, Calls Try.prog 49 #[.int .i64 (scMul al be)] w fun e w' => e = .returned (.int .i64 (scNeg (scMul al be))) ∧ w = w') := sScNeg_any _
              have A1 : Hid (∀ w, Calls Try.prog 47 #[.int .i64 (scMul x y), .int .i64 (scNeg (scMul al be))] w fun e w' => e = .returned (.int .i64 (scAdd (scMul x y) (scNeg (scMul al be)))) ∧ w = w') := sScAdd_any _ _
              generalize fkS ls n ta al be (fun j => m.getD j 0) k = s0 at HGV
              have N2 : Hid (∀ w, Calls Try.prog 49 #[.int .i64 s0] w fun e w' => e = .returned (.int .i64 (scNeg s0)) ∧ w = w') := sScNeg_any _
              have A2 : Hid (∀ w, Calls Try.prog 47 #[.int .i64 (scAdd (scMul x y) (scNeg (scMul al be))), .int .i64 (scNeg s0)] w fun e w' => e = .returned (.int .i64 (scAdd (scAdd (scMul x y) (scNeg (scMul al be))) (scNeg s0))) ∧ w = w') := sScAdd_any _ _
              have I1 : Hid (∀ w, Calls Try.prog 51 #[.int .i64 de] w fun e w' => e = .returned (.int .i64 (scInv de)) ∧ w = w') := sScInv_any de
              have M3 : Hid (∀ w, Calls Try.prog 48 #[.int .i64 (scAdd (scAdd (scMul x y) (scNeg (scMul al be))) (scNeg s0)), .int .i64 (scInv de)] w fun e w' => e = .returned (.int .i64 (scMul (scAdd (scAdd (scMul x y) (scNeg (scMul al be))) (scNeg s0)) (scInv de))) ∧ w = w') := sScMul_any _ _
              have K1 : Hid (∀ w, Calls Try.prog 50 #[.int .i64 x] w fun e w' => e = .returned (.agg #[.int .i64 (gx x).1, .int .i64 (gx x).2.1, .bool (gx x).2.2]) ∧ Below w.heap.size w w') := fun w => by have h := sKey_any x w; rw [gx_key] at h; exact h
              have K2 : Hid (∀ w, Calls Try.prog 50 #[.int .i64 y] w fun e w' => e = .returned (.agg #[.int .i64 (gx y).1, .int .i64 (gx y).2.1, .bool (gx y).2.2]) ∧ Below w.heap.size w w') := fun w => by have h := sKey_any y w; rw [gx_key] at h; exact h
              have K3 : Hid (∀ w, Calls Try.prog 50 #[.int .i64 (scMul (scAdd (scAdd (scMul x y) (scNeg (scMul al be))) (scNeg s0)) (scInv de))] w fun e w' => e = .returned (.agg #[.int .i64 (gx v).1, .int .i64 (gx v).2.1, .bool (gx v).2.2]) ∧ Below w.heap.size w w') := fun w => by have h := sKey_any (scMul (scAdd (scAdd (scMul x y) (scNeg (scMul al be))) (scNeg s0)) (scInv de)) w; rw [HGV.out] at h; exact h
              clear HGV
              generalize scMul (scAdd (scAdd (scMul x y) (scNeg (scMul al be))) (scNeg s0)) (scInv de) = z3 at M3 K3
              generalize scInv de = di at I1 M3
              generalize scAdd (scAdd (scMul x y) (scNeg (scMul al be))) (scNeg s0) = z2 at A2 M3
              generalize scNeg s0 = sn at N2 A2
              generalize scAdd (scMul x y) (scNeg (scMul al be)) = z1 at A1 A2
              generalize scNeg (scMul al be) = n1 at N1 A1
              generalize scMul al be = m2 at M2 N1
              generalize scMul x y = m1 at M1 A1
              generalize gx x = GX at *
              generalize gx y = GY at *
              generalize gx v = GV at *
              go_wp2_with fail
              clear q1
              have T0 : Below wr.heap.size wr wr.drew := (Below.refl _ _).drew
              refine wp_region_ord [(0, false), (1, false), (3, false), (4, false), (5, false), (6, false), (10, false), (2, true), (7, true), (8, true), (9, true), (11, true), (12, true), (13, false)] (fun wz => Below wr.heap.size wr wz) mixes (by kernel_rfl) T0 ?_
              repeat (refine ord_float rfl rfl (fun K hK => ⟨_, (fun w' hw => by have q0 := (ht2.on hw ht2.lt).cell 1; have q1 :=  (ht2.on hw ht2.lt).cell 2; go_simp; exact rfl), ?_⟩); go_simp; refine hK _ ?_; clear hK K)
              refine ord_call rfl rfl (fun K hK => ⟨_, _, (by go_simp <;> first | exact rfl | exact ⟨rfl, rfl⟩), ?_⟩)
              refine (M1.out _).mono ?_
              rintro e u1 ⟨rfl, rfl⟩
              refine ⟨_, rfl, T0, ?_⟩
              go_simp
              refine hK _ _ ?_
              clear hK K
              refine ord_call rfl rfl (fun K hK => ⟨_, _, (by go_simp <;> first | exact rfl | exact ⟨rfl, rfl⟩), ?_⟩)
              refine (M2.out _).mono ?_
              rintro e u1 ⟨rfl, rfl⟩
              refine ⟨_, rfl, T0, ?_⟩
              go_simp
              refine hK _ _ ?_
              clear hK K
              refine ord_call rfl rfl (fun K hK => ⟨_, _, (by go_simp <;> first | exact rfl | exact ⟨rfl, rfl⟩), ?_⟩)
              refine (N1.out _).mono ?_
              rintro e u1 ⟨rfl, rfl⟩
              refine ⟨_, rfl, T0, ?_⟩
              go_simp
              refine hK _ _ ?_
              clear hK K
              refine ord_call rfl rfl (fun K hK => ⟨_, _, (by go_simp <;> first | exact rfl | exact ⟨rfl, rfl⟩), ?_⟩)
              refine (A1.out _).mono ?_
              rintro e u1 ⟨rfl, rfl⟩
              refine ⟨_, rfl, T0, ?_⟩
              go_simp
              refine hK _ _ ?_
              clear hK K
              refine ord_call rfl rfl (fun K hK => ⟨_, _, (by go_simp <;> first | exact rfl | exact ⟨rfl, rfl⟩), ?_⟩)
              refine (N2.out _).mono ?_
              rintro e u1 ⟨rfl, rfl⟩
              refine ⟨_, rfl, T0, ?_⟩
              go_simp
              refine hK _ _ ?_
              clear hK K
              refine ord_call rfl rfl (fun K hK => ⟨_, _, (by go_simp <;> first | exact rfl | exact ⟨rfl, rfl⟩), ?_⟩)
              refine (A2.out _).mono ?_
              rintro e u1 ⟨rfl, rfl⟩
              refine ⟨_, rfl, T0, ?_⟩
              go_simp
              refine hK _ _ ?_
              clear hK K
              repeat (refine ord_float rfl rfl (fun K hK => ⟨_, (fun w' hw => by have q0 := (ht2.on hw ht2.lt).cell 1; go_simp; exact rfl), ?_⟩); go_simp; refine hK _ ?_; clear hK K)
              refine ord_nil ?_
              have ht3 := ht2.on T0 ht2.lt
              have hm3 := hm2.on T0 hm2.lt
              have hB3 := hB2.trans (T0.mono hB2.size)
              generalize wr.drew = w9 at *
              clear T0 ht2 hm2 hB2 M1 M2 N1 A1 N2 A2
              go_wp2_with fail
              have T0 : Below w9.heap.size w9 w9.drew := (Below.refl _ _).drew
              refine wp_region_ord [(0, false), (2, false), (4, false), (5, false), (6, false), (1, true), (3, true), (7, true), (8, true), (9, true), (10, false), (11, true), (12, false)] (fun wz => Blk wz (w.heap.size + 1) 56 #[.int .i64 ta, .int .i64 al, .int .i64 be, .int .i64 ga, .int .i64 de]) mixes (by kernel_rfl) ht3.drew ?_
              repeat (refine ord_float rfl rfl (fun K hK => ⟨_, (fun w' hw => by have q0 := hw.cell 4; go_simp; exact rfl), ?_⟩); go_simp; refine hK _ ?_; clear hK K)
              refine ord_call rfl rfl (fun K hK => ⟨_, _, (by go_simp <;> first | exact rfl | exact ⟨rfl, rfl⟩), ?_⟩)
              refine (K1.out _).mono ?_
              rintro e u2 ⟨rfl, hu2⟩
              have T2 := below_then T0 hu2
              refine ⟨_, rfl, ht3.on T2 ht3.lt, ?_⟩
              go_simp
              refine hK _ _ ?_
              clear hK K
              refine ord_call rfl rfl (fun K hK => ⟨_, _, (by go_simp <;> first | exact rfl | exact ⟨rfl, rfl⟩), ?_⟩)
              refine (K2.out _).mono ?_
              rintro e u3 ⟨rfl, hu3⟩
              have T3 := below_then T2 hu3
              refine ⟨_, rfl, ht3.on T3 ht3.lt, ?_⟩
              go_simp
              refine hK _ _ ?_
              clear hK K
              refine ord_call rfl rfl (fun K hK => ⟨_, _, (by go_simp <;> first | exact rfl | exact ⟨rfl, rfl⟩), ?_⟩)
              refine (I1.out _).mono ?_
              rintro e u4 ⟨rfl, rfl⟩
              refine ⟨_, rfl, ht3.on T3 ht3.lt, ?_⟩
              go_simp
              refine hK _ _ ?_
              clear hK K
              refine ord_call rfl rfl (fun K hK => ⟨_, _, (by go_simp <;> first | exact rfl | exact ⟨rfl, rfl⟩), ?_⟩)
              refine (M3.out _).mono ?_
              rintro e u5 ⟨rfl, rfl⟩
              refine ⟨_, rfl, ht3.on T3 ht3.lt, ?_⟩
              go_simp
              refine hK _ _ ?_
              clear hK K
              refine ord_call rfl rfl (fun K hK => ⟨_, _, (by go_simp <;> first | exact rfl | exact ⟨rfl, rfl⟩), ?_⟩)
              refine (K3.out _).mono ?_
              rintro e u6 ⟨rfl, hu6⟩
              have T6 := below_then T3 hu6
              refine ⟨_, rfl, ht3.on T6 ht3.lt, ?_⟩
              go_simp
              refine hK _ _ ?_
              clear hK K
              repeat (refine ord_float rfl rfl (fun K hK => ⟨_, (fun w' hw => by have q0 := hw.cell 4; go_simp; exact rfl), ?_⟩); go_simp; refine hK _ ?_; clear hK K)
              have hres := hm3.on T6 hm3.lt
              refine ord_storeS (cs' := prfC GX GY GV) rfl rfl rfl rfl rfl rfl hres infoPrF rfl (onesPrF _ _ _) ?_
              intro V8 h8 hheap hoth hbel
              have hb8 := hbel _ _ (by omega) (hB3.trans (T6.mono hB3.size))
              refine ⟨hoth _ _ _ (by omega) (ht3.on T6 ht3.lt), ?_⟩
              repeat (refine ord_float rfl rfl (fun K hK => ⟨_, (fun w' hw => by have q0 := hw.cell 4; go_simp; exact rfl), ?_⟩); go_simp; refine hK _ ?_; clear hK K)
              refine ord_nil ?_
              clear hres hheap hoth hbel T0 T2 T3 T6 hu2 hu3 hu6
              go_wp2
              refine bodyPost_ret_by (result_Btmp rfl rfl rfl h8 Try.underlying39 infoPrF) rfl (HZ.out _ _ rfl hb8)
        · have hmp' : ¬ ((ml : Int) = (p : Int)) := by omega
          have hmp2 : ((ml : Int) != (p : Int)) = true := by rw [bne_iff_ne]; exact hmp'
          have HE : Hid (q = false) := by show _ = _; rw [HQ.out, hx, hy, decide_eq_false hmp']; rfl
          go_wp2_with (refine store_blkS (cs' := #[.int .i64 0, .int .i64 0, .bool false, .int .i64 0, .int .i64 0, .bool false, .int .i64 0, .int .i64 0, .bool false]) rfl rfl rfl rfl rfl hm1 infoPrF rfl (onesPrF (0, 0, false) (0, 0, false) (0, 0, false)) ?_; intro V8 h8 hheap hoth hbel; have hb8 := hbel _ _ (by omega) hB1; clear hoth hbel hheap)
          refine bodyPost_ret_by (result_Btmp rfl rfl rfl h8 Try.underlying39 infoPrF) rfl (HN.out _ _ HE.out rfl hb8)

end Go.Proofs.Ytbkfdafdchjakab
