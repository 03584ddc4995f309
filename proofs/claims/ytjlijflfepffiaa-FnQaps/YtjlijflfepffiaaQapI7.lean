/-
  The walk of the program's word on whether a system holds at a place.
  (-DROP-: what the seat lacks is left out.)
-/
import Derived.Test.YtjlijflfepffiaaQapI6

namespace Go.Proofs.Ytjlijflfepffiaa
open Go.RowKit

set_option maxHeartbeats 3200000 in
set_option maxRecDepth 100000 in
theorem iQHolds_any (wi pu : Int) (hwf : (Lit.int .i64 wi).wf = true) (a : Option Addr) (n c : Nat) (hn : n ≤ 9223372036854775807) (ls : List (List Int)) (hz : ∀ j, (ls.getD j []).length ≤ 9223372036854775807) (am : Option Addr) (cm : Nat) (m : List Int) (hm : m.length ≤ 1048576) (x : Int) (w : World) (hA : NAt 3 w w.heap.size (.slice a n c) n ls) (hu : ZAt w w.heap.size (.slice am m.length cm) m) :
    Calls Try.prog 16 #[sysV wi pu (.slice a n c), .slice am m.length cm, .int .i64 x] w fun e w' => e = .returned (.bool (quotB wi pu n ls m)) ∧ Below w.heap.size w w' := by
  obtain ⟨W, hW, hb, hs⟩ := box1 w 26 #[.int .i64 wi, .int .i64 pu, .slice a n c]
  have HB : Hid (Below w.heap.size w W) := hb
  have CX : Hid (Calls Try.prog 48 #[.agg #[.int .i64 wi, .int .i64 pu, .slice a n c], .slice am m.length cm] W fun e w' => MixEnd W wi pu n ls m e w') := iMixture_any wi pu hwf a n c hn ls hz am cm m hm W ((hA.on hb).wide hb.size) ((hu.on hb).wide hb.size)
  have HQB : Hid (quotB wi pu n ls m = (sysOk wi pu n ls && (wide m wi && (pRem (topL ls n wi.toNat m) (zerL n)).isEmpty))) := rfl
  have HQL : Hid (quotL wi pu n ls m = if quotB wi pu n ls m then pQuo (topL ls n wi.toNat m) (zerL n) else []) := rfl
  have HSM : Hid ((sysOk wi pu n ls && wide m wi) = true → (sideL ls n wi.toNat 0 m).length ≤ 1000 ∧ (sideL ls n wi.toNat 1 m).length ≤ 1000 ∧ (sideL ls n wi.toNat 2 m).length ≤ 1000 ∧ (zerL n).length ≤ 1000) := fun h => mix_small3 h
  have HAT : Hid (quotB wi pu n ls m = true → scMul (pAt (sideL ls n wi.toNat 0 m) x) (pAt (sideL ls n wi.toNat 1 m) x) = scAdd (pAt (sideL ls n wi.toNat 2 m) x) (scMul (pAt (quotL wi pu n ls m) x) (pAt (zerL n) x))) := fun h => by
    obtain ⟨_, _, _, h3, h4, h5, h6⟩ := quotB_parts h
    rw [HQL.out, h, if_pos rfl]
    exact quo_at h3 h4 (sideL_small ls n wi.toNat 0 m h4 h5).2 (sideL_small ls n wi.toNat 1 m h4 h5).2 (sideL_small ls n wi.toNat 2 m h4 h5).2 h6 x
  have HQN : Hid ((quotL wi pu n ls m).length ≤ 1000) := by
    show _ ≤ _
    rw [HQL.out]
    split
    · exact Nat.le_trans (pQuo_64 _ _) (by decide)
    · exact Nat.zero_le _
  clear hA hu hb hz hwf
  unfold sysV
  generalize m.length = ml at *
  go_enter Try.func16, Try.ntmps16
  go_wp2_with (refine load_blk rfl rfl rfl hs Try.underlying26 infoSy ?_)
  clear hW
  refine CX.out.mono ?_
  rintro e w1 (⟨h0, rfl, hb1⟩ | ⟨h1, a0, n0, c0, a1, n1, c1, a2, n2, c2, a3, n3, c3, rfl, hA, hB, hC, hZ, hb1⟩)
  · have HE : Hid (quotB wi pu n ls m = false) := by show _ = _; rw [HQB.out, ← Bool.and_assoc, h0]; rfl
    have HB1 : Hid (Below w.heap.size w w1) := HB.out.trans (hb1.mono HB.out.size)
    obtain ⟨V0, hV0, hb0, hs0⟩ := box1 w1 74 #[.slice none 0 0, .slice none 0 0, .slice none 0 0, .slice none 0 0]
    go_wp2_with (refine store_blkS (cs' := #[.slice none 0 0, .slice none 0 0, .slice none 0 0, .slice none 0 0]) rfl rfl rfl rfl rfl hs0 infoMx rfl (onesMx _ _ _ _ _ _ _ _ _ _ _ _) ?_; intro w2 hq2 hheap hoth hbel; have hb2 := hbel _ _ (Nat.le_refl _) hb0; clear hoth hbel hheap)
    go_ret
    exact ⟨by rw [HE.out]; rfl, HB1.out.trans (hb2.mono HB1.out.size)⟩
  · have HE : Hid (quotB wi pu n ls m = (pRem (topL ls n wi.toNat m) (zerL n)).isEmpty) := by show _ = _; rw [HQB.out, ← Bool.and_assoc, h1, Bool.true_and]
    obtain ⟨s0, s1, s2, s3⟩ := HSM.out h1
    have HB1 : Hid (Below w.heap.size w w1) := HB.out.trans (hb1.mono HB.out.size)
    obtain ⟨V0, hV0, hb0, hs0⟩ := box1 w1 74 #[.slice none 0 0, .slice none 0 0, .slice none 0 0, .slice none 0 0]
    have CQ : Hid (∀ V, Below w1.heap.size w1 V → Calls Try.prog 49 #[.agg #[.slice a0 n0 c0, .slice a1 n1 c1, .slice a2 n2 c2, .slice a3 n3 c3]] V fun e w' => ∃ q, e = .returned (.tuple #[q, .bool (quotB wi pu n ls m)]) ∧ ZOwn V.heap.size w'.heap.size w' q (quotL wi pu n ls m) ∧ Below V.heap.size V w') := fun V hV => by
      have h := iQuotient_any a0 n0 c0 a1 n1 c1 a2 n2 c2 a3 n3 c3 _ _ _ _ s0 s1 s2 s3 V ((hA.on hV).wide hV.size) ((hB.on hV).wide hV.size) ((hC.on hV).wide hV.size) ((hZ.on hV).wide hV.size)
      rw [HQL.out, HE.out]
      exact h
    have CH : Hid (quotB wi pu n ls m = true → ∀ (q : Value) V, Below w1.heap.size w1 V → ZAt V V.heap.size q (quotL wi pu n ls m) → Calls Try.prog 51 #[.agg #[.slice a0 n0 c0, .slice a1 n1 c1, .slice a2 n2 c2, .slice a3 n3 c3], .int .i64 x, q] V fun e w' => e = .returned (.bool true) ∧ Below V.heap.size V w') := fun hq q V hV hD => iHoldsAt_any a0 n0 c0 a1 n1 c1 a2 n2 c2 a3 n3 c3 _ _ _ _ _ x q s0 s1 s2 s3 HQN.out V ((hA.on hV).wide hV.size) ((hB.on hV).wide hV.size) ((hC.on hV).wide hV.size) ((hZ.on hV).wide hV.size) hD (HAT.out hq)
    clear hA hB hC hZ HAT HE HQB HQL
    go_wp2_with (first
      | (refine store_blkS (cs' := #[.slice a0 n0 c0, .slice a1 n1 c1, .slice a2 n2 c2, .slice a3 n3 c3]) rfl rfl rfl rfl rfl hs0 infoMx rfl (onesMx _ _ _ _ _ _ _ _ _ _ _ _) ?_; intro w2 hq2 hheap hoth hbel; have hb2 := hbel _ _ (Nat.le_refl _) hb0; clear hoth hbel hheap)
      | (refine load_blk rfl rfl rfl hq2 Try.underlying74 infoMx ?_))
    refine (CQ.out _ hb2).mono ?_
    rintro e w3 ⟨q, rfl, hq, hb3⟩
    have hb13 : Below w1.heap.size w1 w3 := hb2.trans (hb3.mono hb2.size)
    have HB3 : Hid (Below w.heap.size w w3) := HB1.out.trans (hb13.mono HB1.out.size)
    have hq3 := hq2.on hb3 hq2.lt
    have HQA : Hid (ZAt w3 w3.heap.size q (quotL wi pu n ls m)) := hq.at
    have H13 : Hid (Below w1.heap.size w1 w3) := hb13
    clear hb2 hb3 hb13 hq hq2 CQ hV0 hb0 hs0
    cases hqb : quotB wi pu n ls m
    · go_wp2
      go_ret
      exact ⟨by first | rfl | (rw [hqb]; rfl), HB3.out⟩
    · have CHH : Hid (Calls Try.prog 51 #[.agg #[.slice a0 n0 c0, .slice a1 n1 c1, .slice a2 n2 c2, .slice a3 n3 c3], .int .i64 x, q] w3 fun e w' => e = .returned (.bool true) ∧ Below w3.heap.size w3 w') := CH.out hqb q w3 H13.out HQA.out
      have e0 : w3.cell? ⟨w1.heap.size, 0, none⟩ = some (.slice a0 n0 c0) := hq3.cell 0
      have e1 : w3.cell? ⟨w1.heap.size, 1, none⟩ = some (.slice a1 n1 c1) := hq3.cell 1
      have e2 : w3.cell? ⟨w1.heap.size, 2, none⟩ = some (.slice a2 n2 c2) := hq3.cell 2
      have e3 : w3.cell? ⟨w1.heap.size, 3, none⟩ = some (.slice a3 n3 c3) := hq3.cell 3
      clear hq3
      go_wp2_with fail
      refine CHH.out.mono ?_
      rintro e w4 ⟨rfl, hb4⟩
      go_wp2
      go_ret
      exact ⟨by first | rfl | (rw [hqb]; rfl), HB3.out.trans (hb4.mono HB3.out.size)⟩

end Go.Proofs.Ytjlijflfepffiaa
