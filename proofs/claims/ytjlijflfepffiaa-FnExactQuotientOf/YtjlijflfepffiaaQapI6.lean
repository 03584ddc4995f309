/-
  The walks of the program's quotient of a system and of its word on whether it holds at a place.
  (-DROP-: what the seat lacks is left out.)
-/
import Derived.Test.YtjlijflfepffiaaQapI5
import Derived.Test.YtjlijflfepffiaaQapS5

namespace Go.Proofs.Ytjlijflfepffiaa
open Go.RowKit

set_option maxHeartbeats 3200000 in
set_option maxRecDepth 100000 in
theorem iHoldsAt_any (a0 : Option Addr) (n0 c0 : Nat) (a1 : Option Addr) (n1 c1 : Nat) (a2 : Option Addr) (n2 c2 : Nat) (a3 : Option Addr) (n3 c3 : Nat) (A B C Z D : List Int) (x : Int) (q : Value) (lA : A.length ≤ 1000) (lB : B.length ≤ 1000) (lC : C.length ≤ 1000) (lZ : Z.length ≤ 1000) (lD : D.length ≤ 1000) (w : World)
    (hA : ZAt w w.heap.size (.slice a0 n0 c0) A) (hB : ZAt w w.heap.size (.slice a1 n1 c1) B) (hC : ZAt w w.heap.size (.slice a2 n2 c2) C) (hZ : ZAt w w.heap.size (.slice a3 n3 c3) Z) (hD : ZAt w w.heap.size q D)
    (heq : scMul (pAt A x) (pAt B x) = scAdd (pAt C x) (scMul (pAt D x) (pAt Z x))) :
    Calls Try.prog 51 #[.agg #[.slice a0 n0 c0, .slice a1 n1 c1, .slice a2 n2 c2, .slice a3 n3 c3], .int .i64 x, q] w fun e w' => e = .returned (.bool true) ∧ Below w.heap.size w w' := by
  obtain ⟨W, hW, hb, hs⟩ := box1 w 74 #[.slice a0 n0 c0, .slice a1 n1 c1, .slice a2 n2 c2, .slice a3 n3 c3]
  have HB : Hid (Below w.heap.size w W) := hb
  have HZ : Hid (ZAt W W.heap.size (.slice a0 n0 c0) A ∧ ZAt W W.heap.size (.slice a1 n1 c1) B ∧ ZAt W W.heap.size (.slice a2 n2 c2) C ∧ ZAt W W.heap.size (.slice a3 n3 c3) Z ∧ ZAt W W.heap.size q D) := ⟨(hA.on hb).wide hb.size, (hB.on hb).wide hb.size, (hC.on hb).wide hb.size, (hZ.on hb).wide hb.size, (hD.on hb).wide hb.size⟩
  have CA : Hid (∀ V, Below W.heap.size W V → Calls Try.prog 85 #[.slice a0 n0 c0, .int .i64 x] V fun e w' => e = .returned (.int .i64 (pAt A x)) ∧ Below V.heap.size V w') := fun V hV => iAt_any _ _ _ (by omega) V ((HZ.out.1.on hV).wide hV.size)
  have CB : Hid (∀ V, Below W.heap.size W V → Calls Try.prog 85 #[.slice a1 n1 c1, .int .i64 x] V fun e w' => e = .returned (.int .i64 (pAt B x)) ∧ Below V.heap.size V w') := fun V hV => iAt_any _ _ _ (by omega) V ((HZ.out.2.1.on hV).wide hV.size)
  have CC : Hid (∀ V, Below W.heap.size W V → Calls Try.prog 85 #[.slice a2 n2 c2, .int .i64 x] V fun e w' => e = .returned (.int .i64 (pAt C x)) ∧ Below V.heap.size V w') := fun V hV => iAt_any _ _ _ (by omega) V ((HZ.out.2.2.1.on hV).wide hV.size)
  have CZ : Hid (∀ V, Below W.heap.size W V → Calls Try.prog 85 #[.slice a3 n3 c3, .int .i64 x] V fun e w' => e = .returned (.int .i64 (pAt Z x)) ∧ Below V.heap.size V w') := fun V hV => iAt_any _ _ _ (by omega) V ((HZ.out.2.2.2.1.on hV).wide hV.size)
  have CD : Hid (∀ V, Below W.heap.size W V → Calls Try.prog 85 #[q, .int .i64 x] V fun e w' => e = .returned (.int .i64 (pAt D x)) ∧ Below V.heap.size V w') := fun V hV => iAt_any _ _ _ (by omega) V ((HZ.out.2.2.2.2.on hV).wide hV.size)
  have CM1 : Hid (∀ V, Calls Try.prog 84 #[.int .i64 (pAt A x), .int .i64 (pAt B x)] V fun e w' => e = .returned (.int .i64 (scMul (pAt A x) (pAt B x))) ∧ V = w') := iScMul_any _ _
  have CM2 : Hid (∀ V, Calls Try.prog 84 #[.int .i64 (pAt D x), .int .i64 (pAt Z x)] V fun e w' => e = .returned (.int .i64 (scMul (pAt D x) (pAt Z x))) ∧ V = w') := iScMul_any _ _
  have CS : Hid (∀ V, Calls Try.prog 86 #[.int .i64 (pAt C x), .int .i64 (scMul (pAt D x) (pAt Z x))] V fun e w' => e = .returned (.int .i64 (scMul (pAt A x) (pAt B x))) ∧ V = w') := by
    rw [heq]
    exact iScAdd_any _ _
  clear hA hB hC hZ hD hb lA lB lC lZ lD heq HZ
  generalize scMul (pAt A x) (pAt B x) = s1 at *
  generalize scMul (pAt D x) (pAt Z x) = s2 at *
  generalize pAt A x = pA at *
  generalize pAt B x = pB at *
  generalize pAt C x = pC at *
  generalize pAt D x = pD at *
  generalize pAt Z x = pZ at *
  go_enter Try.func51, Try.ntmps51
  go_wp2_with fail
  clear hW
  have T0 : Below W.heap.size W W.drew := (Below.refl _ _).drew
  refine wp_region_ord [(0, false), (1, false), (2, false), (4, false), (5, false), (6, false), (3, true), (7, true), (8, true), (9, false)] (fun wz => Below W.heap.size W wz) mixesSc (by kernel_rfl) T0 ?_
  repeat (refine ord_float rfl rfl (fun K hK => ⟨_, (fun w' hw => by have q0 := (hs.on hw hs.lt).cell 0; have q1 :=  (hs.on hw hs.lt).cell 1; go_simp; exact rfl), ?_⟩); go_simp; refine hK _ ?_; clear hK K)
  refine ord_call rfl rfl (fun K hK => ⟨_, _, (by go_simp <;> first | exact rfl | exact ⟨rfl, rfl⟩), ?_⟩)
  refine (CA.out _ T0).mono ?_
  rintro e u1 ⟨rfl, hu1⟩
  have T1 := below_then T0 hu1
  refine ⟨_, rfl, T1, ?_⟩
  go_simp
  refine hK _ _ ?_
  clear hK K
  refine ord_call rfl rfl (fun K hK => ⟨_, _, (by go_simp <;> first | exact rfl | exact ⟨rfl, rfl⟩), ?_⟩)
  refine (CB.out _ T1).mono ?_
  rintro e u2 ⟨rfl, hu2⟩
  have T2 := below_then T1 hu2
  refine ⟨_, rfl, T2, ?_⟩
  go_simp
  refine hK _ _ ?_
  clear hK K
  refine ord_call rfl rfl (fun K hK => ⟨_, _, (by go_simp <;> first | exact rfl | exact ⟨rfl, rfl⟩), ?_⟩)
  refine (CM1.out _).mono ?_
  rintro e u3 ⟨rfl, hu3⟩
  have T3 : Below W.heap.size W u3 := hu3 ▸ T2
  refine ⟨_, rfl, T3, ?_⟩
  go_simp
  refine hK _ _ ?_
  clear hK K
  repeat (refine ord_float rfl rfl (fun K hK => ⟨_, (fun w' hw => by have q0 := (hs.on hw hs.lt).cell 0; go_simp; exact rfl), ?_⟩); go_simp; refine hK _ ?_; clear hK K)
  refine ord_nil ?_
  go_wp2_with fail
  have R0 : Below W.heap.size W u3.drew := T3.drew
  refine wp_region_ord [(0, false), (1, false), (3, false), (4, false), (5, false), (2, true), (6, true), (7, true), (8, false)] (fun wz => Below W.heap.size W wz) mixesSc (by kernel_rfl) R0 ?_
  repeat (refine ord_float rfl rfl (fun K hK => ⟨_, (fun w' hw => by have q0 := (hs.on hw hs.lt).cell 3; go_simp; exact rfl), ?_⟩); go_simp; refine hK _ ?_; clear hK K)
  refine ord_call rfl rfl (fun K hK => ⟨_, _, (by go_simp <;> first | exact rfl | exact ⟨rfl, rfl⟩), ?_⟩)
  refine (CD.out _ R0).mono ?_
  rintro e u4 ⟨rfl, hu4⟩
  have T4 := below_then R0 hu4
  refine ⟨_, rfl, T4, ?_⟩
  go_simp
  refine hK _ _ ?_
  clear hK K
  refine ord_call rfl rfl (fun K hK => ⟨_, _, (by go_simp <;> first | exact rfl | exact ⟨rfl, rfl⟩), ?_⟩)
  refine (CZ.out _ T4).mono ?_
  rintro e u5 ⟨rfl, hu5⟩
  have T5 := below_then T4 hu5
  refine ⟨_, rfl, T5, ?_⟩
  go_simp
  refine hK _ _ ?_
  clear hK K
  refine ord_call rfl rfl (fun K hK => ⟨_, _, (by go_simp <;> first | exact rfl | exact ⟨rfl, rfl⟩), ?_⟩)
  refine (CM2.out _).mono ?_
  rintro e u6 ⟨rfl, hu6⟩
  have T6 : Below W.heap.size W u6 := hu6 ▸ T5
  refine ⟨_, rfl, T6, ?_⟩
  go_simp
  refine hK _ _ ?_
  clear hK K
  repeat (refine ord_float rfl rfl (fun K hK => ⟨_, (fun w' hw => by have q0 := (hs.on hw hs.lt).cell 3; go_simp; exact rfl), ?_⟩); go_simp; refine hK _ ?_; clear hK K)
  refine ord_nil ?_
  have HT6 : Hid (Below W.heap.size W u6) := T6
  have q2 := (hs.on T6 hs.lt).cell 2
  replace q2 : u6.cell? ⟨w.heap.size, 2, none⟩ = some (.slice a2 n2 c2) := q2
  have HCC : Hid (Calls Try.prog 85 #[.slice a2 n2 c2, .int .i64 x] u6 fun e w' => e = .returned (.int .i64 pC) ∧ Below u6.heap.size u6 w') := CC.out _ T6
  clear hu1 hu2 hu3 hu4 hu5 hu6 T0 T1 T2 T3 T4 T5 R0 T6 CA CB CC CZ CD CM1 CM2 hs
  go_wp2_with (first
    | (go_at_call 85; refine HCC.out.mono ?_; rintro e u7 ⟨rfl, hb7⟩)
    | (go_at_call 86; refine (CS.out _).mono ?_; rintro e u8 ⟨rfl, rfl⟩))
  go_ret
  refine ⟨?_, HB.out.trans ((HT6.out.trans (hb7.mono HT6.out.size)).mono HB.out.size)⟩
  simp

theorem mix_small3 {wi pu : Int} {n : Nat} {ls : List (List Int)} {m : List Int} (h : (sysOk wi pu n ls && wide m wi) = true) : (sideL ls n wi.toNat 0 m).length ≤ 1000 ∧ (sideL ls n wi.toNat 1 m).length ≤ 1000 ∧ (sideL ls n wi.toNat 2 m).length ≤ 1000 ∧ (zerL n).length ≤ 1000 := by
  rw [Bool.and_eq_true] at h
  obtain ⟨h1, h2⟩ := h
  unfold sysOk at h1
  simp only [Bool.and_eq_true, decide_eq_true_eq] at h1
  obtain ⟨⟨h3, h4⟩, _, ⟨h5, h6⟩, _⟩ := h1
  unfold wide at h2
  rw [Bool.and_eq_true] at h2
  have h7 := of_decide_eq_true h2.1
  have hn : n ≤ 16 := by omega
  have hm : m.length = wi.toNat := by omega
  have s0 := (sideL_small ls n wi.toNat 0 m hn hm).2
  have s1 := (sideL_small ls n wi.toNat 1 m hn hm).2
  have s2 := (sideL_small ls n wi.toNat 2 m hn hm).2
  have s3 := zerL_small n
  exact ⟨by omega, by omega, by omega, by omega⟩

set_option maxHeartbeats 3200000 in
set_option maxRecDepth 100000 in
theorem iQuot_any (wi pu : Int) (hwf : (Lit.int .i64 wi).wf = true) (a : Option Addr) (n c : Nat) (hn : n ≤ 9223372036854775807) (ls : List (List Int)) (hz : ∀ j, (ls.getD j []).length ≤ 9223372036854775807) (am : Option Addr) (cm : Nat) (m : List Int) (hm : m.length ≤ 1048576) (w : World) (hA : NAt 3 w w.heap.size (.slice a n c) n ls) (hu : ZAt w w.heap.size (.slice am m.length cm) m) :
    Calls Try.prog 12 #[sysV wi pu (.slice a n c), .slice am m.length cm] w fun e w' => ∃ q, e = .returned (.tuple #[q, .bool (quotB wi pu n ls m)]) ∧ ZOwn w.heap.size w'.heap.size w' q (quotL wi pu n ls m) ∧ Below w.heap.size w w' := by
  obtain ⟨W, hW, hb, hs⟩ := box1 w 26 #[.int .i64 wi, .int .i64 pu, .slice a n c]
  have HB : Hid (Below w.heap.size w W) := hb
  have CX : Hid (Calls Try.prog 48 #[.agg #[.int .i64 wi, .int .i64 pu, .slice a n c], .slice am m.length cm] W fun e w' => MixEnd W wi pu n ls m e w') := iMixture_any wi pu hwf a n c hn ls hz am cm m hm W ((hA.on hb).wide hb.size) ((hu.on hb).wide hb.size)
  have HQB : Hid (quotB wi pu n ls m = (sysOk wi pu n ls && (wide m wi && (pRem (topL ls n wi.toNat m) (zerL n)).isEmpty))) := rfl
  have HQL : Hid (quotL wi pu n ls m = if quotB wi pu n ls m then pQuo (topL ls n wi.toNat m) (zerL n) else []) := rfl
  have HSM : Hid ((sysOk wi pu n ls && wide m wi) = true → (sideL ls n wi.toNat 0 m).length ≤ 1000 ∧ (sideL ls n wi.toNat 1 m).length ≤ 1000 ∧ (sideL ls n wi.toNat 2 m).length ≤ 1000 ∧ (zerL n).length ≤ 1000) := fun h => mix_small3 h
  clear hA hu hb hz hwf
  unfold sysV
  generalize m.length = ml at *
  go_enter Try.func12, Try.ntmps12
  go_wp2_with (refine load_blk rfl rfl rfl hs Try.underlying26 infoSy ?_)
  clear hW
  refine CX.out.mono ?_
  rintro e w1 (⟨h0, rfl, hb1⟩ | ⟨h1, a0, n0, c0, a1, n1, c1, a2, n2, c2, a3, n3, c3, rfl, hA, hB, hC, hZ, hb1⟩)
  · have HE : Hid (quotB wi pu n ls m = false) := by show _ = _; rw [HQB.out, ← Bool.and_assoc, h0]; rfl
    have HF : Hid (quotL wi pu n ls m = []) := by show _ = _; rw [HQL.out, HE.out]; rfl
    have HB1 : Hid (Below w.heap.size w w1) := HB.out.trans (hb1.mono HB.out.size)
    obtain ⟨V0, hV0, hb0, hs0⟩ := box1 w1 74 #[.slice none 0 0, .slice none 0 0, .slice none 0 0, .slice none 0 0]
    go_wp2_with (refine store_blkS (cs' := #[.slice none 0 0, .slice none 0 0, .slice none 0 0, .slice none 0 0]) rfl rfl rfl rfl rfl hs0 infoMx rfl (onesMx _ _ _ _ _ _ _ _ _ _ _ _) ?_; intro w2 hq2 hheap hoth hbel; have hb2 := hbel _ _ (Nat.le_refl _) hb0; clear hoth hbel hheap)
    have HB2 : Hid (Below w.heap.size w w2) := HB1.out.trans (hb2.mono HB1.out.size)
    go_ret2
    exact ⟨.slice (some ⟨w2.heap.size, 0, none⟩) 0 0, by rw [HE.out]; rfl, by rw [HF.out]; exact (ZOwn.of (slit0 w2)).wide HB2.out.size (Nat.le_refl _), HB2.out.alloc HB2.out.size _⟩
  · have HE : Hid (quotB wi pu n ls m = (pRem (topL ls n wi.toNat m) (zerL n)).isEmpty) := by show _ = _; rw [HQB.out, ← Bool.and_assoc, h1, Bool.true_and]
    obtain ⟨s0, s1, s2, s3⟩ := HSM.out h1
    have HB1 : Hid (Below w.heap.size w w1) := HB.out.trans (hb1.mono HB.out.size)
    obtain ⟨V0, hV0, hb0, hs0⟩ := box1 w1 74 #[.slice none 0 0, .slice none 0 0, .slice none 0 0, .slice none 0 0]
    have CQ : Hid (∀ V, Below w1.heap.size w1 V → Calls Try.prog 49 #[.agg #[.slice a0 n0 c0, .slice a1 n1 c1, .slice a2 n2 c2, .slice a3 n3 c3]] V fun e w' => ∃ q, e = .returned (.tuple #[q, .bool (quotB wi pu n ls m)]) ∧ ZOwn V.heap.size w'.heap.size w' q (quotL wi pu n ls m) ∧ Below V.heap.size V w') := fun V hV => by
      have h := iQuotient_any a0 n0 c0 a1 n1 c1 a2 n2 c2 a3 n3 c3 _ _ _ _ s0 s1 s2 s3 V ((hA.on hV).wide hV.size) ((hB.on hV).wide hV.size) ((hC.on hV).wide hV.size) ((hZ.on hV).wide hV.size)
      rw [HQL.out, HE.out]
      exact h
    go_wp2_with (first
      | (refine store_blkS (cs' := #[.slice a0 n0 c0, .slice a1 n1 c1, .slice a2 n2 c2, .slice a3 n3 c3]) rfl rfl rfl rfl rfl hs0 infoMx rfl (onesMx _ _ _ _ _ _ _ _ _ _ _ _) ?_; intro w2 hq2 hheap hoth hbel; have hb2 := hbel _ _ (Nat.le_refl _) hb0; clear hoth hbel hheap)
      | (refine load_blk rfl rfl rfl hq2 Try.underlying74 infoMx ?_)
      | (go_at_call 49; refine (CQ.out _ hb2).mono ?_; rintro e w3 ⟨q, rfl, hq, hb3⟩))
    have HB2 : Hid (Below w.heap.size w w2) := HB1.out.trans (hb2.mono HB1.out.size)
    go_ret2
    exact ⟨q, rfl, hq.wide HB2.out.size (Nat.le_refl _), HB2.out.trans (hb3.mono HB2.out.size)⟩

end Go.Proofs.Ytjlijflfepffiaa
