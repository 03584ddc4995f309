/-
  Texts of one's own, joined.
-/
import Derived.Test.YthnahalboomkoaaGreatJoined12
import Derived.Test.YthnahalboomkoaaGreatQapS2
import Derived.Test.YthnahalboomkoaaGreatJoined11

/-
  The walks of the specification's rows as one product: both sides, the quotient, whether it holds.
  (-DROP-: what the seat lacks is left out.)
-/
namespace Go.Proofs.YthnahalboomkoaaGreat
open Go.RowKit

/-- One side of a system for numbers. -/
def sideL (ls : List (List Int)) (n wn t : Nat) (m : List Int) : List Int := pMix (qapN ls n t wn) m
theorem sideL_small (ls : List (List Int)) (n wn t : Nat) (m : List Int) (hn : n ≤ 16) (hm : m.length = wn) : sideL ls n wn t m = mixN (qapN ls n t wn) m wn ∧ (sideL ls n wn t m).length ≤ n := by
  have e : sideL ls n wn t m = mixN (qapN ls n t wn) m wn := by
    unfold sideL pMix
    rw [qapN_len, hm, Nat.min_self]
  exact ⟨e, by rw [e]; exact mix_small ls m t hn⟩

/-- What the two sides leave. -/
def PartsEnd (w : World) (ls : List (List Int)) (n wn : Nat) (m : List Int) (e : Ending) (w' : World) : Prop :=
  ∃ A B C, e = .returned (.tuple #[A, B, C]) ∧ ZAt w' w'.heap.size A (sideL ls n wn 0 m) ∧ ZAt w' w'.heap.size B (sideL ls n wn 1 m) ∧ ZAt w' w'.heap.size C (sideL ls n wn 2 m) ∧ Below w.heap.size w w'

set_option maxHeartbeats 3200000 in
set_option maxRecDepth 100000 in
theorem sParts_any (wi pu : Int) (hwf : (Lit.int .i64 wi).wf = true) (a : Option Addr) (n c : Nat) (hn : n ≤ 9223372036854775807) (ls : List (List Int)) (hz : ∀ j, (ls.getD j []).length ≤ 9223372036854775807) (hok : sysOk wi pu n ls = true) (u : Value) (m : List Int) (hm : m.length ≤ 1048576) (w : World) (hA : NAt 3 w w.heap.size (.slice a n c) n ls) (hu : ZAt w w.heap.size u m) :
    Calls Tryz.prog 153 #[sysV wi pu (.slice a n c), u] w fun e w' => PartsEnd w ls n wi.toNat m e w' := by
  obtain ⟨W, hW, hb, hs⟩ := box1 w 26 #[.int .i64 wi, .int .i64 pu, .slice a n c]
  have HA : Hid (NAt 3 W W.heap.size (.slice a n c) n ls) := (hA.on hb).wide hb.size
  have HU : Hid (ZAt W W.heap.size u m) := (hu.on hb).wide hb.size
  have HB : Hid (Below w.heap.size w W) := hb
  have hok1 := hok
  unfold sysOk at hok1
  simp only [Bool.and_eq_true, decide_eq_true_eq] at hok1
  obtain ⟨⟨hw1, hw2⟩, _, ⟨hn1, hn2⟩, _⟩ := hok1
  have CQ : Hid (Calls Tryz.prog 78 #[.agg #[.int .i64 wi, .int .i64 pu, .slice a n c]] W fun e w' => QapEnd W wi pu n ls e w') := sQapOf_any wi pu hwf a n c hn ls hz W HA.out
  have HOK : Hid (sysOk wi pu n ls = true) := hok
  obtain ⟨wn, hwn⟩ : ∃ wn, wi.toNat = wn := ⟨_, rfl⟩
  have hwl : wn ≤ 20 := by omega
  have HL : Hid (∀ t j, ((qapN ls n t wn).getD j []).length ≤ 1048576) := fun t j => by
    by_cases hj : j < wn
    · rw [qapN_at ls n t wn j hj]
      exact pThr_len _
    · rw [List.getD_eq_getElem?_getD, List.getElem?_eq_none (by rw [qapN_len]; omega)]
      exact Nat.zero_le _
  rw [hwn]
  have HWN : Hid (wi.toNat = wn) := hwn
  clear hA hu hb hz hwf hok hwn
  unfold sysV
  go_enter Tryz.func153, Tryz.ntmps153
  go_wp2_with (refine load_blk rfl rfl rfl hs Tryz.underlying26 infoSy ?_)
  clear hW hs
  refine CQ.out.mono ?_
  rintro e w1 (⟨h0, _, _⟩ | ⟨_, U, V, X, us, vs, xs, rfl, hT, hb1⟩)
  · rw [HOK.out] at h0
    cases h0
  · rw [HWN.out] at hT
    have HT : Hid (Tri 27 W.heap.size w1.heap.size w1 U wn us (qapN ls n 0 wn) V wn vs (qapN ls n 1 wn) X wn xs (qapN ls n 2 wn)) := hT
    obtain ⟨ua, uc, hu⟩ := row_form hT.u.row
    subst hu
    obtain ⟨va, vc, hv⟩ := row_form hT.v.row
    subst hv
    obtain ⟨xa, xc, hx⟩ := row_form hT.x.row
    subst hx
    have HU1 : Hid (ZAt w1 w1.heap.size u m) := (HU.out.on hb1).wide hb1.size
    have HB1 : Hid (Below w.heap.size w w1) := HB.out.trans (hb1.mono HB.out.size)
    clear hT hb1 HU HB CQ
    obtain ⟨V0, hV0, hb0, hs0⟩ := box1 w1 122 #[.slice none 0 0, .slice none 0 0, .slice none 0 0]
    go_wp2_with (refine store_blkS (cs' := #[.slice ua wn uc, .slice va wn vc, .slice xa wn xc]) rfl rfl rfl rfl rfl hs0 infoQa rfl (onesQa _ _ _ _ _ _ _ _ _) ?_; intro w2 hq2 hheap hoth hbel; have hb2 := hbel _ _ (Nat.le_refl _) hb0; clear hoth hbel hheap)
    have HU2 : Hid (ZAt w2 w2.heap.size u m) := (HU1.out.on hb2).wide hb2.size
    have HB2 : Hid (Below w.heap.size w w2) := HB1.out.trans (hb2.mono HB1.out.size)
    have HN0 : Hid (NAt 1 w2 w2.heap.size (.slice ua wn uc) (qapN ls n 0 wn).length (qapN ls n 0 wn)) := by rw [qapN_len]; exact (HT.out.u.at.on hb2).wide hb2.size
    have HN1 : Hid (NAt 1 w2 w2.heap.size (.slice va wn vc) (qapN ls n 1 wn).length (qapN ls n 1 wn)) := by rw [qapN_len]; exact (HT.out.v.at.on hb2).wide hb2.size
    have HN2 : Hid (NAt 1 w2 w2.heap.size (.slice xa wn xc) (qapN ls n 2 wn).length (qapN ls n 2 wn)) := by rw [qapN_len]; exact (HT.out.x.at.on hb2).wide hb2.size
    have HQ2 : Hid (Blk w2 w1.heap.size 122 #[.slice ua wn uc, .slice va wn vc, .slice xa wn xc]) := hq2
    clear hV0 hb0 hs0 hb2 hq2 HT HU1 HB1
    have CM : Hid (∀ (t : Nat) (v : Value) (W : World), Below w2.heap.size w2 W → NAt 1 w2 w2.heap.size v (qapN ls n t wn).length (qapN ls n t wn) → Calls Tryz.prog 194 #[v, u] W fun e w' => ∃ x, e = .returned x ∧ ZOwn W.heap.size w'.heap.size w' x (sideL ls n wn t m) ∧ Below W.heap.size W w') := fun t v W hW hv => sMix_any v u _ m (by rw [qapN_len]; omega) (HL.out t) hm W ((hv.on hW).wide hW.size) ((HU2.out.on hW).wide hW.size)
    have T0 : Below w2.heap.size w2 w2.drew := (Below.refl _ _).drew
    refine wp_region_ord [(0, false), (1, false), (2, false), (4, false), (5, false), (6, false), (8, false), (9, false), (10, false), (3, true), (7, true), (11, true), (12, false), (13, false), (14, false)] (fun wz => Below w2.heap.size w2 wz) mixesSc (by kernel_rfl) T0 ?_
    repeat (refine ord_float rfl rfl (fun K hK => ⟨_, (fun w' hw => by have q0 := (HQ2.out.on hw HQ2.out.lt).cell 0; have q1 :=  (HQ2.out.on hw HQ2.out.lt).cell 1; have q2 :=  (HQ2.out.on hw HQ2.out.lt).cell 2; go_simp; exact rfl), ?_⟩); go_simp; refine hK _ ?_; clear hK K)
    refine ord_call rfl rfl (fun K hK => ⟨_, _, (by go_simp <;> first | exact rfl | exact ⟨rfl, rfl⟩), ?_⟩)
    refine (CM.out 0 _ _ T0 HN0.out).mono ?_
    rintro e u1 ⟨A, rfl, hA1, hu1⟩
    have T1 := T0.trans (hu1.mono T0.size)
    refine ⟨_, rfl, T1, ?_⟩
    go_simp
    refine hK _ _ ?_
    clear hK K
    repeat (refine ord_float rfl rfl (fun K hK => ⟨_, (fun w' hw => by have q0 := (HQ2.out.on hw HQ2.out.lt).cell 1; go_simp; exact rfl), ?_⟩); go_simp; refine hK _ ?_; clear hK K)
    refine ord_call rfl rfl (fun K hK => ⟨_, _, (by go_simp <;> first | exact rfl | exact ⟨rfl, rfl⟩), ?_⟩)
    refine (CM.out 1 _ _ T1 HN1.out).mono ?_
    rintro e u2 ⟨B, rfl, hB1, hu2⟩
    have T2 := T1.trans (hu2.mono T1.size)
    refine ⟨_, rfl, T2, ?_⟩
    go_simp
    refine hK _ _ ?_
    clear hK K
    repeat (refine ord_float rfl rfl (fun K hK => ⟨_, (fun w' hw => by have q0 := (HQ2.out.on hw HQ2.out.lt).cell 2; go_simp; exact rfl), ?_⟩); go_simp; refine hK _ ?_; clear hK K)
    refine ord_call rfl rfl (fun K hK => ⟨_, _, (by go_simp <;> first | exact rfl | exact ⟨rfl, rfl⟩), ?_⟩)
    refine (CM.out 2 _ _ T2 HN2.out).mono ?_
    rintro e u3 ⟨C, rfl, hC1, hu3⟩
    have T3 := T2.trans (hu3.mono T2.size)
    refine ⟨_, rfl, T3, ?_⟩
    go_simp
    refine hK _ _ ?_
    clear hK K
    repeat (refine ord_float rfl rfl (fun K hK => ⟨_, (fun w' hw => by have q0 := (HQ2.out.on hw HQ2.out.lt).cell 2; go_simp; exact rfl), ?_⟩); go_simp; refine hK _ ?_; clear hK K)
    refine ord_nil ?_
    have HFA : Hid (ZAt u3 u3.heap.size A (sideL ls n wn 0 m) ∧ ZAt u3 u3.heap.size B (sideL ls n wn 1 m) ∧ ZAt u3 u3.heap.size C (sideL ls n wn 2 m) ∧ Below w.heap.size w u3) := ⟨(((hA1.at.on hu2).wide hu2.size).on hu3).wide hu3.size, (hB1.at.on hu3).wide hu3.size, hC1.at, HB2.out.trans (T3.mono HB2.out.size)⟩
    clear hA1 hB1 hC1 hu1 hu2 hu3 T0 T1 T2 T3 HN0 HN1 HN2 HQ2 CM
    go_wp2
    go_ret3
    exact ⟨A, B, C, rfl, HFA.out.1, HFA.out.2.1, HFA.out.2.2.1, HFA.out.2.2.2⟩

end Go.Proofs.YthnahalboomkoaaGreat

/-
  The walks of the specification's quotient and of whether it holds.
  (-DROP-: what the seat lacks is left out.)
-/
namespace Go.Proofs.YthnahalboomkoaaGreat
open Go.RowKit

/-- What is divided, of a system and numbers. -/
def topL (ls : List (List Int)) (n wn : Nat) (m : List Int) : List Int := numL (sideL ls n wn 0 m) (sideL ls n wn 1 m) (sideL ls n wn 2 m)
def quotB (wi pu : Int) (n : Nat) (ls : List (List Int)) (m : List Int) : Bool := sysOk wi pu n ls && (wide m wi && (pRem (topL ls n wi.toNat m) (zerL n)).isEmpty)
def quotL (wi pu : Int) (n : Nat) (ls : List (List Int)) (m : List Int) : List Int := if quotB wi pu n ls m then pQuo (topL ls n wi.toNat m) (zerL n) else []

set_option maxHeartbeats 3200000 in
set_option maxRecDepth 100000 in
theorem sQuot_any (wi pu : Int) (hwf : (Lit.int .i64 wi).wf = true) (a : Option Addr) (n c : Nat) (hn : n ≤ 9223372036854775807) (ls : List (List Int)) (hz : ∀ j, (ls.getD j []).length ≤ 9223372036854775807) (am : Option Addr) (cm : Nat) (m : List Int) (hm : m.length ≤ 1048576) (w : World) (hA : NAt 3 w w.heap.size (.slice a n c) n ls) (hu : ZAt w w.heap.size (.slice am m.length cm) m) :
    Calls Tryz.prog 88 #[sysV wi pu (.slice a n c), .slice am m.length cm] w fun e w' => ∃ q, e = .returned (.tuple #[q, .bool (quotB wi pu n ls m)]) ∧ ZOwn w.heap.size w'.heap.size w' q (quotL wi pu n ls m) ∧ Below w.heap.size w w' := by
  obtain ⟨W, hW, hb, hs⟩ := box1 w 26 #[.int .i64 wi, .int .i64 pu, .slice a n c]
  have HA : Hid (NAt 3 W W.heap.size (.slice a n c) n ls) := (hA.on hb).wide hb.size
  have HU : Hid (ZAt W W.heap.size (.slice am m.length cm) m) := (hu.on hb).wide hb.size
  have HB : Hid (Below w.heap.size w W) := hb
  have HS : Hid (Blk W w.heap.size 26 #[.int .i64 wi, .int .i64 pu, .slice a n c]) := hs
  have CS : Hid (∀ V, Below W.heap.size W V → Calls Tryz.prog 150 #[.agg #[.int .i64 wi, .int .i64 pu, .slice a n c]] V fun e w' => e = .returned (.bool (sysOk wi pu n ls)) ∧ Below V.heap.size V w') := fun V hV => sSysOk_any wi pu hwf a n c hn ls hz V ((HA.out.on hV).wide hV.size)
  have CW : Hid (∀ V, Below W.heap.size W V → Calls Tryz.prog 102 #[.slice am m.length cm, .int .i64 wi] V fun e w' => e = .returned (.bool (wide m wi)) ∧ Below V.heap.size V w') := fun V hV => by
    obtain ⟨a', c', hv, hI⟩ := (HU.out.on hV).wide hV.size
    rw [hv]
    exact sWide_any a' c' m wi (by omega) V hI
  have CP : Hid (sysOk wi pu n ls = true → ∀ V, Below W.heap.size W V → Calls Tryz.prog 153 #[.agg #[.int .i64 wi, .int .i64 pu, .slice a n c], .slice am m.length cm] V fun e w' => PartsEnd V ls n wi.toNat m e w') := fun hok V hV => sParts_any wi pu hwf a n c hn ls hz hok _ m hm V ((HA.out.on hV).wide hV.size) ((HU.out.on hV).wide hV.size)
  have HQB : Hid (quotB wi pu n ls m = (sysOk wi pu n ls && (wide m wi && (pRem (topL ls n wi.toNat m) (zerL n)).isEmpty))) := rfl
  have HQL : Hid (quotL wi pu n ls m = if quotB wi pu n ls m then pQuo (topL ls n wi.toNat m) (zerL n) else []) := rfl
  have HOKN : Hid (sysOk wi pu n ls = true → 1 ≤ wi ∧ wi ≤ 20 ∧ 1 ≤ n ∧ n ≤ 16) := fun h => by
    unfold sysOk at h
    simp only [Bool.and_eq_true, decide_eq_true_eq] at h
    obtain ⟨⟨h1, h2⟩, _, ⟨h3, h4⟩, _⟩ := h
    exact ⟨h1, h2, by omega, by omega⟩
  have HWM : Hid (wide m wi = true → (m.length : Int) = wi) := fun h => by
    unfold wide at h
    rw [Bool.and_eq_true] at h
    exact of_decide_eq_true h.1
  clear hA hu hb hz hwf
  unfold sysV
  generalize hml : m.length = ml at *
  have HML : Hid (m.length = ml) := hml
  clear hml
  go_enter Tryz.func88, Tryz.ntmps88
  go_wp2_with (refine load_blk rfl rfl rfl hs Tryz.underlying26 infoSy ?_)
  clear hW
  refine (CS.out _ (Below.refl _ _)).mono ?_
  rintro e w1 ⟨rfl, hb1⟩
  have HB1 : Hid (Below W.heap.size W w1) := hb1
  have hs1 := hs.on hb1 hs.lt
  have q0 := hs1.cell 0
  replace q0 : w1.cell? ⟨w.heap.size, 0, none⟩ = some (.int .i64 wi) := q0
  clear hb1 hs
  cases hok : sysOk wi pu n ls
  · have HE : Hid (quotB wi pu n ls m = false) := by show _ = _; rw [HQB.out, hok]; rfl
    have HF : Hid (quotL wi pu n ls m = []) := by show _ = _; rw [HQL.out, HE.out]; rfl
    go_wp2
    go_ret2
    exact ⟨.slice (some ⟨w1.heap.size, 0, none⟩) 0 0, by rw [HE.out]; rfl, by rw [HF.out]; exact (ZOwn.of (slit0 w1)).wide (Nat.le_trans HB.out.size HB1.out.size) (Nat.le_refl _), (HB.out.trans (HB1.out.mono HB.out.size)).alloc (Nat.le_trans HB.out.size HB1.out.size) _⟩
  · go_wp2_with fail
    refine (CW.out _ HB1.out).mono ?_
    rintro e w2 ⟨rfl, hb2⟩
    have HB2 : Hid (Below W.heap.size W w2) := HB1.out.trans (hb2.mono HB1.out.size)
    have hs2 := hs1.on hb2 hs1.lt
    clear hb2 hs1 q0 HB1
    cases hwd : wide m wi
    · have HE : Hid (quotB wi pu n ls m = false) := by show _ = _; rw [HQB.out, hok, hwd]; rfl
      have HF : Hid (quotL wi pu n ls m = []) := by show _ = _; rw [HQL.out, HE.out]; rfl
      go_wp2
      go_ret2
      exact ⟨.slice (some ⟨w2.heap.size, 0, none⟩) 0 0, by rw [HE.out]; rfl, by rw [HF.out]; exact (ZOwn.of (slit0 w2)).wide (Nat.le_trans HB.out.size HB2.out.size) (Nat.le_refl _), (HB.out.trans (HB2.out.mono HB.out.size)).alloc (Nat.le_trans HB.out.size HB2.out.size) _⟩
    · obtain ⟨hw1, hw2, hn1, hn2⟩ := HOKN.out hok
      have hmw := HWM.out hwd
      obtain ⟨wn, hwn⟩ : ∃ wn, wi.toNat = wn := ⟨_, rfl⟩
      rw [hwn] at CP HQB HQL
      have hmn : m.length = wn := by rw [HML.out]; omega
      have S0 := (sideL_small ls n wn 0 m hn2 hmn).2
      have S1 := (sideL_small ls n wn 1 m hn2 hmn).2
      have S2 := (sideL_small ls n wn 2 m hn2 hmn).2
      have HSM : Hid ((sideL ls n wn 0 m).length ≤ 1048576 ∧ (sideL ls n wn 1 m).length ≤ 1048576 ∧ (sideL ls n wn 2 m).length ≤ 1048576 ∧ (topL ls n wn m).length ≤ 1048576) := ⟨by omega, by omega, by omega, by have := numL_len (c := sideL ls n wn 2 m) S0 S1 S2 hn1; unfold topL; omega⟩
      have HE : Hid (quotB wi pu n ls m = (pRem (topL ls n wn m) (zerL n)).isEmpty) := by show _ = _; rw [HQB.out, hok, hwd]; rfl
      clear S0 S1 S2 hmn HQB hwn
      go_wp2_with (refine load_blk rfl rfl rfl hs2 Tryz.underlying26 infoSy ?_)
      refine (CP.out hok _ HB2.out).mono ?_
      rintro e w3 ⟨A, B, C, rfl, hA3, hB3, hC3, hb3⟩
      have HB3 : Hid (Below w.heap.size w w3) := (HB.out.trans (HB2.out.mono HB.out.size)).trans (hb3.mono (Nat.le_trans HB.out.size HB2.out.size))
      have HS3 : Hid (Blk w3 w.heap.size 26 #[.int .i64 wi, .int .i64 pu, .slice a n c]) := hs2.on hb3 hs2.lt
      have HA3 : Hid (ZAt w3 w3.heap.size A (sideL ls n wn 0 m) ∧ ZAt w3 w3.heap.size B (sideL ls n wn 1 m) ∧ ZAt w3 w3.heap.size C (sideL ls n wn 2 m)) := ⟨hA3, hB3, hC3⟩
      clear hA3 hB3 hC3 hb3 hs2 HB2 CS CW CP HA HU HS
      have T0 : Below w3.heap.size w3 w3.drew := (Below.refl _ _).drew
      have HZN : Hid (pZer (n : Int) = zerL n) := pZer_nat hn2
      have CM : Hid (∀ V, Below w3.heap.size w3 V → Calls Tryz.prog 152 #[A, B] V fun e w' => ∃ u, e = .returned u ∧ ZOwn V.heap.size w'.heap.size w' u (qMul (sideL ls n wn 0 m) (sideL ls n wn 1 m)) ∧ Below V.heap.size V w') := fun V hV => sQMul_any A B _ _ HSM.out.1 HSM.out.2.1 V ((HA3.out.1.on hV).wide hV.size) ((HA3.out.2.1.on hV).wide hV.size)
      have CC : Hid (∀ V, Below w3.heap.size w3 V → Calls Tryz.prog 156 #[C, .int .i64 (-1)] V fun e w' => ∃ u, e = .returned u ∧ ZOwn V.heap.size w'.heap.size w' u (scl (sideL ls n wn 2 m) (-1)) ∧ Below V.heap.size V w') := fun V hV => sScl_any C _ (-1) HSM.out.2.2.1 V ((HA3.out.2.2.on hV).wide hV.size)
      have CA : Hid (∀ V (x y : Value), ZAt V V.heap.size x (qMul (sideL ls n wn 0 m) (sideL ls n wn 1 m)) → ZAt V V.heap.size y (scl (sideL ls n wn 2 m) (-1)) → Calls Tryz.prog 155 #[x, y] V fun e w' => ∃ u, e = .returned u ∧ ZOwn V.heap.size w'.heap.size w' u (topL ls n wn m) ∧ Below V.heap.size V w') := fun V x y hx hy => sQAdd_any x y _ _ (qMul_len _ _) (by rw [scl_len]; exact HSM.out.2.2.1) V hx hy
      have CZ : Hid (∀ V, Calls Tryz.prog 84 #[.int .i64 (n : Int)] V fun e w' => ∃ u, e = .returned u ∧ ZOwn V.heap.size w'.heap.size w' u (zerL n) ∧ Below V.heap.size V w') := fun V => by
        have h := sZer_any (n : Int) V
        rwa [HZN.out] at h
      have CD : Hid (∀ V (x y : Value), ZAt V V.heap.size x (topL ls n wn m) → ZAt V V.heap.size y (zerL n) → Calls Tryz.prog 154 #[x, y] V fun e w' => ∃ q r, e = .returned (.tuple #[q, r]) ∧ ZOwn V.heap.size w'.heap.size w' q (pQuo (topL ls n wn m) (zerL n)) ∧ ZOwn V.heap.size w'.heap.size w' r (pRem (topL ls n wn m) (zerL n)) ∧ (∀ g, q.ownBlock = some g → r.ownBlock ≠ some g) ∧ Below V.heap.size V w') := fun V x y hx hy => sDiv_any x y _ _ HSM.out.2.2.2 (zerL_len n) V hx hy
      go_wp2_with fail
      refine wp_region_ord [(0, false), (1, false), (3, false), (6, false), (7, false), (8, false), (2, true), (4, true), (5, true), (9, true), (10, true), (11, false), (12, false), (13, false), (14, false), (15, false)] (fun wz => Below w3.heap.size w3 wz) mixesSc (by kernel_rfl) T0 ?_
      repeat (refine ord_float rfl rfl (fun K hK => ⟨_, (fun w' hw => by have q0 := (HS3.out.on hw HS3.out.lt).cell 2; go_simp; exact rfl), ?_⟩); go_simp; refine hK _ ?_; clear hK K)
      refine ord_call rfl rfl (fun K hK => ⟨_, _, (by go_simp <;> first | exact rfl | exact ⟨rfl, rfl⟩), ?_⟩)
      refine (CM.out _ T0).mono ?_
      rintro e u1 ⟨x1, rfl, h1, hu1⟩
      have T1 := T0.trans (hu1.mono T0.size)
      refine ⟨_, rfl, T1, ?_⟩
      go_simp
      refine hK _ _ ?_
      clear hK K
      refine ord_call rfl rfl (fun K hK => ⟨_, _, (by go_simp <;> first | exact rfl | exact ⟨rfl, rfl⟩), ?_⟩)
      refine (CC.out _ T1).mono ?_
      rintro e u2 ⟨x2, rfl, h2, hu2⟩
      have T2 := T1.trans (hu2.mono T1.size)
      refine ⟨_, rfl, T2, ?_⟩
      go_simp
      refine hK _ _ ?_
      clear hK K
      refine ord_call rfl rfl (fun K hK => ⟨_, _, (by go_simp <;> first | exact rfl | exact ⟨rfl, rfl⟩), ?_⟩)
      refine (CA.out _ _ _ ((h1.at.on hu2).wide hu2.size) h2.at).mono ?_
      rintro e u3 ⟨x3, rfl, h3, hu3⟩
      have T3 := T2.trans (hu3.mono T2.size)
      refine ⟨_, rfl, T3, ?_⟩
      go_simp
      refine hK _ _ ?_
      clear hK K
      refine ord_call rfl rfl (fun K hK => ⟨_, _, (by go_simp <;> first | exact rfl | exact ⟨rfl, rfl⟩), ?_⟩)
      refine (CZ.out _).mono ?_
      rintro e u4 ⟨x4, rfl, h4, hu4⟩
      have T4 := T3.trans (hu4.mono T3.size)
      refine ⟨_, rfl, T4, ?_⟩
      go_simp
      refine hK _ _ ?_
      clear hK K
      refine ord_call rfl rfl (fun K hK => ⟨_, _, (by go_simp <;> first | exact rfl | exact ⟨rfl, rfl⟩), ?_⟩)
      refine (CD.out _ _ _ ((h3.at.on hu4).wide hu4.size) h4.at).mono ?_
      rintro e u5 ⟨q, r, rfl, h5, h6, _, hu5⟩
      have T5 := T4.trans (hu5.mono T4.size)
      refine ⟨_, rfl, T5, ?_⟩
      go_simp
      refine hK _ _ ?_
      clear hK K
      repeat (refine ord_float rfl rfl (fun K hK => ⟨_, (fun w' hw => by have q0 := (HS3.out.on hw HS3.out.lt).cell 2; go_simp; exact rfl), ?_⟩); go_simp; refine hK _ ?_; clear hK K)
      refine ord_nil ?_
      have hs35 : w.heap.size ≤ u4.heap.size := Nat.le_trans HB3.out.size T4.size
      have HQ5 : Hid (ZOwn w.heap.size u5.heap.size u5 q (pQuo (topL ls n wn m) (zerL n))) := h5.wide hs35 (Nat.le_refl _)
      obtain ⟨ra, rc, hrv⟩ := row_form h6.1
      subst hrv
      have HB5 : Hid (Below w.heap.size w u5) := HB3.out.trans (T5.mono HB3.out.size)
      clear h1 h2 h3 h4 h5 h6 hu1 hu2 hu3 hu4 hu5 T0 T1 T2 T3 T4 T5 CM CC CA CZ CD HA3 HS3 HB3
      by_cases hr : (pRem (topL ls n wn m) (zerL n)).length = 0
      · have he : (pRem (topL ls n wn m) (zerL n)).isEmpty = true := by rw [List.isEmpty_iff]; exact List.length_eq_zero_iff.1 hr
        have HF : Hid (quotL wi pu n ls m = pQuo (topL ls n wn m) (zerL n)) := by show _ = _; rw [HQL.out, HE.out, he]; rfl
        rw [hr]
        go_wp2
        go_ret2
        exact ⟨q, by rw [HE.out, he]; rfl, by rw [HF.out]; exact HQ5.out, HB5.out⟩
      · have he : (pRem (topL ls n wn m) (zerL n)).isEmpty = false := by rw [Bool.eq_false_iff]; intro h; exact hr (by rw [List.isEmpty_iff.1 h]; rfl)
        have HF : Hid (quotL wi pu n ls m = []) := by show _ = _; rw [HQL.out, HE.out, he]; rfl
        have hr' : (((pRem (topL ls n wn m) (zerL n)).length : Nat) : Int) > 0 := by omega
        generalize (pRem (topL ls n wn m) (zerL n)).length = rl at *
        go_wp2
        go_ret2
        exact ⟨.slice (some ⟨u5.heap.size, 0, none⟩) 0 0, by rw [HE.out, he]; rfl, by rw [HF.out]; exact (ZOwn.of (slit0 u5)).wide HB5.out.size (Nat.le_refl _), HB5.out.alloc HB5.out.size _⟩

end Go.Proofs.YthnahalboomkoaaGreat
