/-
  The walk of the specification's word on whether a system holds at a place.
  (-DROP-: what the seat lacks is left out.)
-/
import Derived.Test.YtjlijflfepffiaaQapS4

namespace Go.Proofs.Ytjlijflfepffiaa
open Go.RowKit

theorem quotB_parts {wi pu : Int} {n : Nat} {ls : List (List Int)} {m : List Int} (h : quotB wi pu n ls m = true) : sysOk wi pu n ls = true ∧ 1 ≤ wi ∧ wi ≤ 20 ∧ 1 ≤ n ∧ n ≤ 16 ∧ m.length = wi.toNat ∧ pRem (topL ls n wi.toNat m) (zerL n) = [] := by
  unfold quotB at h
  rw [Bool.and_eq_true, Bool.and_eq_true] at h
  obtain ⟨h1, h2, h3⟩ := h
  have h4 := h1
  unfold sysOk at h4
  simp only [Bool.and_eq_true, decide_eq_true_eq] at h4
  obtain ⟨⟨h5, h6⟩, _, ⟨h7, h8⟩, _⟩ := h4
  unfold wide at h2
  rw [Bool.and_eq_true] at h2
  have h9 := of_decide_eq_true h2.1
  exact ⟨h1, h5, h6, by omega, by omega, by omega, List.isEmpty_iff.1 h3⟩

set_option maxHeartbeats 3200000 in
set_option maxRecDepth 100000 in
theorem sQHolds_any (wi pu : Int) (hwf : (Lit.int .i64 wi).wf = true) (a : Option Addr) (n c : Nat) (hn : n ≤ 9223372036854775807) (ls : List (List Int)) (hz : ∀ j, (ls.getD j []).length ≤ 9223372036854775807) (am : Option Addr) (cm : Nat) (m : List Int) (hm : m.length ≤ 1048576) (x : Int) (w : World) (hA : NAt 3 w w.heap.size (.slice a n c) n ls) (hu : ZAt w w.heap.size (.slice am m.length cm) m) :
    Calls Try.prog 28 #[sysV wi pu (.slice a n c), .slice am m.length cm, .int .i64 x] w fun e w' => e = .returned (.bool (quotB wi pu n ls m)) ∧ Below w.heap.size w w' := by
  obtain ⟨W, hW, hb, hs⟩ := box1 w 26 #[.int .i64 wi, .int .i64 pu, .slice a n c]
  have HA : Hid (NAt 3 W W.heap.size (.slice a n c) n ls) := (hA.on hb).wide hb.size
  have HU : Hid (ZAt W W.heap.size (.slice am m.length cm) m) := (hu.on hb).wide hb.size
  have HB : Hid (Below w.heap.size w W) := hb
  have CQ : Hid (Calls Try.prog 22 #[.agg #[.int .i64 wi, .int .i64 pu, .slice a n c], .slice am m.length cm] W fun e w' => ∃ q, e = .returned (.tuple #[q, .bool (quotB wi pu n ls m)]) ∧ ZOwn W.heap.size w'.heap.size w' q (quotL wi pu n ls m) ∧ Below W.heap.size W w') := sQuot_any wi pu hwf a n c hn ls hz am cm m hm W HA.out HU.out
  have CP : Hid (sysOk wi pu n ls = true → ∀ V, Below W.heap.size W V → Calls Try.prog 61 #[.agg #[.int .i64 wi, .int .i64 pu, .slice a n c], .slice am m.length cm] V fun e w' => PartsEnd V ls n wi.toNat m e w') := fun hok V hV => sParts_any wi pu hwf a n c hn ls hz hok _ m hm V ((HA.out.on hV).wide hV.size) ((HU.out.on hV).wide hV.size)
  have HML : Hid (m.length ≤ 1048576) := hm
  clear hA hu hb hz hwf hm
  unfold sysV
  generalize m.length = ml at CQ CP ⊢
  go_enter Try.func28, Try.ntmps28
  go_wp2_with (refine load_blk rfl rfl rfl hs Try.underlying26 infoSy ?_)
  clear hW
  refine CQ.out.mono ?_
  rintro e w1 ⟨q, rfl, hq, hb1⟩
  have HQ1 : Hid (ZOwn W.heap.size w1.heap.size w1 q (quotL wi pu n ls m)) := hq
  have HB1 : Hid (Below W.heap.size W w1) := hb1
  have hs1 := hs.on hb1 hs.lt
  clear hq hb1 hs CQ
  cases hqb : quotB wi pu n ls m
  · have HE : Hid (quotB wi pu n ls m = false) := hqb
    clear hqb
    go_wp2
    go_ret
    exact ⟨by rw [HE.out]; rfl, HB.out.trans (HB1.out.mono HB.out.size)⟩
  · have HE : Hid (quotB wi pu n ls m = true) := hqb
    obtain ⟨hok, hw1, hw2, hn1, hn2, hmn, hrem⟩ := quotB_parts hqb
    have HL : Hid (quotL wi pu n ls m = pQuo (topL ls n wi.toNat m) (zerL n)) := by show _ = _; unfold quotL; rw [hqb]; rfl
    have S0 := (sideL_small ls n wi.toNat 0 m hn2 hmn).2
    have S1 := (sideL_small ls n wi.toNat 1 m hn2 hmn).2
    have S2 := (sideL_small ls n wi.toNat 2 m hn2 hmn).2
    have HEQ : Hid (scMul (pAt (sideL ls n wi.toNat 0 m) x) (pAt (sideL ls n wi.toNat 1 m) x) = scAdd (pAt (sideL ls n wi.toNat 2 m) x) (scMul (pAt (quotL wi pu n ls m) x) (pAt (zerL n) x))) := by
      show _ = _
      rw [HL.out]
      exact quo_at hn1 hn2 S0 S1 S2 hrem x
    have HSM : Hid ((sideL ls n wi.toNat 0 m).length ≤ 1048576 ∧ (sideL ls n wi.toNat 1 m).length ≤ 1048576 ∧ (sideL ls n wi.toNat 2 m).length ≤ 1048576 ∧ (quotL wi pu n ls m).length ≤ 1048576) := ⟨by omega, by omega, by omega, by rw [HL.out]; exact pQuo_len _ _⟩
    have HZN : Hid (pZer (n : Int) = zerL n) := pZer_nat hn2
    clear hqb S0 S1 S2 hrem hmn HL
    go_wp2_with (refine load_blk rfl rfl rfl hs1 Try.underlying26 infoSy ?_)
    refine (CP.out hok _ HB1.out).mono ?_
    rintro e w3 ⟨A, B, C, rfl, hA3, hB3, hC3, hb3⟩
    have HS3 : Hid (Blk w3 w.heap.size 26 #[.int .i64 wi, .int .i64 pu, .slice a n c]) := hs1.on hb3 hs1.lt
    have HA3 : Hid (ZAt w3 w3.heap.size A (sideL ls n wi.toNat 0 m) ∧ ZAt w3 w3.heap.size B (sideL ls n wi.toNat 1 m) ∧ ZAt w3 w3.heap.size C (sideL ls n wi.toNat 2 m) ∧ ZAt w3 w3.heap.size q (quotL wi pu n ls m)) := ⟨hA3, hB3, hC3, (HQ1.out.at.on hb3).wide hb3.size⟩
    have HB3 : Hid (Below w.heap.size w w3) := (HB.out.trans (HB1.out.mono HB.out.size)).trans (hb3.mono (Nat.le_trans HB.out.size HB1.out.size))
    clear hA3 hB3 hC3 hb3 hs1 HQ1 HB1 HB HA HU CP
    generalize sideL ls n wi.toNat 0 m = l0 at HEQ HSM HA3
    generalize sideL ls n wi.toNat 1 m = l1 at HEQ HSM HA3
    generalize sideL ls n wi.toNat 2 m = l2 at HEQ HSM HA3
    generalize quotL wi pu n ls m = l3 at HEQ HSM HA3
    have T0 : Below w3.heap.size w3 w3.drew := (Below.refl _ _).drew
    have CT : Hid (∀ (v : Value) (l : List Int) V, Below w3.heap.size w3 V → ZAt w3 w3.heap.size v l → l.length ≤ 1048576 → Calls Try.prog 69 #[v, .int .i64 x] V fun e w' => e = .returned (.int .i64 (pAt l x)) ∧ Below V.heap.size V w') := fun v l V hV hv hl => sAt_any v l x hl V ((hv.on hV).wide hV.size)
    have CZ : Hid (∀ V, Calls Try.prog 66 #[.int .i64 (n : Int)] V fun e w' => ∃ u, e = .returned u ∧ ZOwn V.heap.size w'.heap.size w' u (zerL n) ∧ Below V.heap.size V w') := fun V => by
      have h := sZer_any (n : Int) V
      rwa [HZN.out] at h
    have CZT : Hid (∀ V (v : Value), ZAt V V.heap.size v (zerL n) → Calls Try.prog 69 #[v, .int .i64 x] V fun e w' => e = .returned (.int .i64 (pAt (zerL n) x)) ∧ Below V.heap.size V w') := fun V v hv => sAt_any v _ x (zerL_len n) V hv
    have CM1 : Hid (∀ V, Calls Try.prog 14 #[.int .i64 (pAt l0 x), .int .i64 (pAt l1 x)] V fun e w' => e = .returned (.int .i64 (scMul (pAt l0 x) (pAt l1 x))) ∧ V = w') := sScMul_any _ _
    have CM2 : Hid (∀ V, Calls Try.prog 14 #[.int .i64 (pAt l3 x), .int .i64 (pAt (zerL n) x)] V fun e w' => e = .returned (.int .i64 (scMul (pAt l3 x) (pAt (zerL n) x))) ∧ V = w') := sScMul_any _ _
    have CA : Hid (∀ V, Calls Try.prog 13 #[.int .i64 (pAt l2 x), .int .i64 (scMul (pAt l3 x) (pAt (zerL n) x))] V fun e w' => e = .returned (.int .i64 (scMul (pAt l0 x) (pAt l1 x))) ∧ V = w') := fun V => by rw [HEQ.out]; exact sScAdd_any _ _ V
    have D0 : Hid (∀ V, Below w3.heap.size w3 V → Calls Try.prog 69 #[A, .int .i64 x] V fun e w' => e = .returned (.int .i64 (pAt l0 x)) ∧ Below V.heap.size V w') := fun V hV => CT.out A l0 V hV HA3.out.1 HSM.out.1
    have D1 : Hid (∀ V, Below w3.heap.size w3 V → Calls Try.prog 69 #[B, .int .i64 x] V fun e w' => e = .returned (.int .i64 (pAt l1 x)) ∧ Below V.heap.size V w') := fun V hV => CT.out B l1 V hV HA3.out.2.1 HSM.out.2.1
    have D2 : Hid (∀ V, Below w3.heap.size w3 V → Calls Try.prog 69 #[C, .int .i64 x] V fun e w' => e = .returned (.int .i64 (pAt l2 x)) ∧ Below V.heap.size V w') := fun V hV => CT.out C l2 V hV HA3.out.2.2.1 HSM.out.2.2.1
    have D3 : Hid (∀ V, Below w3.heap.size w3 V → Calls Try.prog 69 #[q, .int .i64 x] V fun e w' => e = .returned (.int .i64 (pAt l3 x)) ∧ Below V.heap.size V w') := fun V hV => CT.out q l3 V hV HA3.out.2.2.2 HSM.out.2.2.2
    clear CT HEQ
    generalize scMul (pAt l0 x) (pAt l1 x) = z0 at CM1 CA
    generalize scMul (pAt l3 x) (pAt (zerL n) x) = z1 at CM2 CA
    generalize pAt l0 x = y0 at D0 CM1
    generalize pAt l1 x = y1 at D1 CM1
    generalize pAt l2 x = y2 at D2 CA
    generalize pAt l3 x = y3 at D3 CM2
    generalize pAt (zerL n) x = y4 at CZT CM2
    go_wp2_with fail
    refine wp_region_ord [(0, false), (1, false), (3, false), (4, false), (7, false), (8, false), (10, false), (11, false), (13, false), (14, false), (15, false), (17, false), (2, true), (5, true), (6, true), (9, true), (12, true), (16, true), (18, true), (19, true), (20, true), (21, false), (22, false)] (fun wz => Below w3.heap.size w3 wz) mixesSc (by kernel_rfl) T0 ?_
    repeat (refine ord_float rfl rfl (fun K hK => ⟨_, (fun w' hw => by have q0 := (HS3.out.on hw HS3.out.lt).cell 2; go_simp; exact rfl), ?_⟩); go_simp; refine hK _ ?_; clear hK K)
    refine ord_call rfl rfl (fun K hK => ⟨_, _, (by go_simp <;> first | exact rfl | exact ⟨rfl, rfl⟩), ?_⟩)
    refine (D0.out _ T0).mono ?_
    rintro e u1 ⟨rfl, hu1⟩
    have T1 := T0.trans (hu1.mono T0.size)
    refine ⟨_, rfl, T1, ?_⟩
    go_simp
    refine hK _ _ ?_
    clear hK K
    refine ord_call rfl rfl (fun K hK => ⟨_, _, (by go_simp <;> first | exact rfl | exact ⟨rfl, rfl⟩), ?_⟩)
    refine (D1.out _ T1).mono ?_
    rintro e u2 ⟨rfl, hu2⟩
    have T2 := T1.trans (hu2.mono T1.size)
    refine ⟨_, rfl, T2, ?_⟩
    go_simp
    refine hK _ _ ?_
    clear hK K
    refine ord_call rfl rfl (fun K hK => ⟨_, _, (by go_simp <;> first | exact rfl | exact ⟨rfl, rfl⟩), ?_⟩)
    refine (CM1.out _).mono ?_
    rintro e u3 ⟨rfl, hu3⟩
    have T3 : Below w3.heap.size w3 u3 := hu3 ▸ T2
    refine ⟨_, rfl, T3, ?_⟩
    go_simp
    refine hK _ _ ?_
    clear hK K
    refine ord_call rfl rfl (fun K hK => ⟨_, _, (by go_simp <;> first | exact rfl | exact ⟨rfl, rfl⟩), ?_⟩)
    refine (D2.out _ T3).mono ?_
    rintro e u4 ⟨rfl, hu4⟩
    have T4 := T3.trans (hu4.mono T3.size)
    refine ⟨_, rfl, T4, ?_⟩
    go_simp
    refine hK _ _ ?_
    clear hK K
    refine ord_call rfl rfl (fun K hK => ⟨_, _, (by go_simp <;> first | exact rfl | exact ⟨rfl, rfl⟩), ?_⟩)
    refine (D3.out _ T4).mono ?_
    rintro e u5 ⟨rfl, hu5⟩
    have T5 := T4.trans (hu5.mono T4.size)
    refine ⟨_, rfl, T5, ?_⟩
    go_simp
    refine hK _ _ ?_
    clear hK K
    refine ord_call rfl rfl (fun K hK => ⟨_, _, (by go_simp <;> first | exact rfl | exact ⟨rfl, rfl⟩), ?_⟩)
    refine (CZ.out _).mono ?_
    rintro e u6 ⟨zv, rfl, hzv, hu6⟩
    have T6 := T5.trans (hu6.mono T5.size)
    refine ⟨_, rfl, T6, ?_⟩
    go_simp
    refine hK _ _ ?_
    clear hK K
    refine ord_call rfl rfl (fun K hK => ⟨_, _, (by go_simp <;> first | exact rfl | exact ⟨rfl, rfl⟩), ?_⟩)
    refine (CZT.out _ _ hzv.at).mono ?_
    rintro e u7 ⟨rfl, hu7⟩
    have T7 := T6.trans (hu7.mono T6.size)
    refine ⟨_, rfl, T7, ?_⟩
    go_simp
    refine hK _ _ ?_
    clear hK K
    refine ord_call rfl rfl (fun K hK => ⟨_, _, (by go_simp <;> first | exact rfl | exact ⟨rfl, rfl⟩), ?_⟩)
    refine (CM2.out _).mono ?_
    rintro e u8 ⟨rfl, hu8⟩
    have T8 : Below w3.heap.size w3 u8 := hu8 ▸ T7
    refine ⟨_, rfl, T8, ?_⟩
    go_simp
    refine hK _ _ ?_
    clear hK K
    refine ord_call rfl rfl (fun K hK => ⟨_, _, (by go_simp <;> first | exact rfl | exact ⟨rfl, rfl⟩), ?_⟩)
    refine (CA.out _).mono ?_
    rintro e u9 ⟨rfl, hu9⟩
    have T9 : Below w3.heap.size w3 u9 := hu9 ▸ T8
    refine ⟨_, rfl, T9, ?_⟩
    go_simp
    refine hK _ _ ?_
    clear hK K
    repeat (refine ord_float rfl rfl (fun K hK => ⟨_, (fun w' hw => by have q0 := (HS3.out.on hw HS3.out.lt).cell 2; go_simp; exact rfl), ?_⟩); go_simp; refine hK _ ?_; clear hK K)
    refine ord_nil ?_
    have HF : Hid (Below w.heap.size w u9) := HB3.out.trans (T9.mono HB3.out.size)
    clear hu1 hu2 hu3 hu4 hu5 hu6 hu7 hu8 hu9 hzv T0 T1 T2 T3 T4 T5 T6 T7 T8 T9
    go_wp2
    go_ret
    exact ⟨by rw [HE.out]; rfl, HF.out⟩

end Go.Proofs.Ytjlijflfepffiaa
