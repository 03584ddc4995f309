/-
  The walk of the program's mixture of a system and numbers.
  (-DROP-: what the seat lacks is left out.)
-/
import Derived.Test.YtjlijflfepffiaaJoined16
import Derived.Test.YtjlijflfepffiaaQapI3
import Derived.Test.YtjlijflfepffiaaQapS4
import Derived.Test.YtjlijflfepffiaaJoined18

namespace Go.Proofs.Ytjlijflfepffiaa
open Go.RowKit

theorem infoMx : (Try.prog.info? 74).map (·.size) = some 4 := by kernel_rfl
theorem onesMx (a : Option Addr) (n c : Nat) (a1 : Option Addr) (n1 c1 : Nat) (a2 : Option Addr) (n2 c2 : Nat) (a3 : Option Addr) (n3 c3 : Nat) : (#[Value.slice a n c, .slice a1 n1 c1, .slice a2 n2 c2, .slice a3 n3 c3]).all (·.oneCell') = true := by simp [Value.oneCell']
theorem owns_cap {w : World} {B e sz n c : Nat} {a : Option Addr} {xs : List Value} (h : w.ownsRow B e sz (.slice a n c) n xs) : n ≤ c := by
  rcases h.2 with ⟨h0, h1⟩ | ⟨g, c', cur, hv, hg, hh, h1, h2, h3, h4⟩
  · omega
  · injection hv with e1 e2 e3; omega

/-- What the mixture leaves. -/
def MixEnd (w : World) (wi pu : Int) (n : Nat) (ls : List (List Int)) (m : List Int) (e : Ending) (w' : World) : Prop :=
  ((sysOk wi pu n ls && wide m wi) = false ∧ e = .returned (.tuple #[.agg #[.slice none 0 0, .slice none 0 0, .slice none 0 0, .slice none 0 0], .bool false]) ∧ Below w.heap.size w w') ∨
  ((sysOk wi pu n ls && wide m wi) = true ∧ ∃ a0 n0 c0 a1 n1 c1 a2 n2 c2 a3 n3 c3, e = .returned (.tuple #[.agg #[.slice a0 n0 c0, .slice a1 n1 c1, .slice a2 n2 c2, .slice a3 n3 c3], .bool true]) ∧ ZAt w' w'.heap.size (.slice a0 n0 c0) (sideL ls n wi.toNat 0 m) ∧ ZAt w' w'.heap.size (.slice a1 n1 c1) (sideL ls n wi.toNat 1 m) ∧ ZAt w' w'.heap.size (.slice a2 n2 c2) (sideL ls n wi.toNat 2 m) ∧ ZAt w' w'.heap.size (.slice a3 n3 c3) (zerL n) ∧ Below w.heap.size w w')

set_option maxHeartbeats 6400000 in
set_option maxRecDepth 100000 in
theorem iMixture_any (wi pu : Int) (hwf : (Lit.int .i64 wi).wf = true) (a : Option Addr) (n c : Nat) (hn : n ≤ 9223372036854775807) (ls : List (List Int)) (hz : ∀ j, (ls.getD j []).length ≤ 9223372036854775807) (am : Option Addr) (cm : Nat) (m : List Int) (hm : m.length ≤ 1048576) (w : World) (hA : NAt 3 w w.heap.size (.slice a n c) n ls) (hu : ZAt w w.heap.size (.slice am m.length cm) m) :
    Calls Try.prog 48 #[.agg #[.int .i64 wi, .int .i64 pu, .slice a n c], .slice am m.length cm] w fun e w' => MixEnd w wi pu n ls m e w' := by
  obtain ⟨W, hW, hb, hs, hr⟩ := boxes1r w 26 74 #[.int .i64 wi, .int .i64 pu, .slice a n c] #[.slice none 0 0, .slice none 0 0, .slice none 0 0, .slice none 0 0]
  have HU : Hid (ZAt w w.heap.size (.slice am m.length cm) m) := hu
  have CQ : Hid (Calls Try.prog 18 #[.agg #[.int .i64 wi, .int .i64 pu, .slice a n c]] W fun e w' => QapEnd W wi pu n ls e w') := iQapOf_any wi pu hwf a n c hn ls hz W ((hA.on hb).wide hb.size)
  have CW : Hid (∀ V, Below w.heap.size w V → Calls Try.prog 80 #[.slice am m.length cm, .int .i64 wi] V fun e w' => e = .returned (.bool (wide m wi)) ∧ Below V.heap.size V w') := fun V hV => by
    obtain ⟨a', c', hv, hI⟩ := (HU.out.on hV).wide hV.size
    rw [hv]
    exact iWide_any a' c' m wi (by omega) V hI
  have HL : Hid (∀ t wn j, ((qapN ls n t wn).getD j []).length ≤ 1048576) := fun t wn j => by
    by_cases hj : j < wn
    · rw [qapN_at ls n t wn j hj]
      exact pThr_len _
    · rw [List.getD_eq_getElem?_getD, List.getElem?_eq_none (by rw [qapN_len]; omega)]
      exact Nat.zero_le _
  have HOKN : Hid (sysOk wi pu n ls = true → 1 ≤ wi ∧ wi ≤ 20 ∧ 1 ≤ n ∧ n ≤ 16) := fun h => by
    unfold sysOk at h
    simp only [Bool.and_eq_true, decide_eq_true_eq] at h
    obtain ⟨⟨h1, h2⟩, _, ⟨h3, h4⟩, _⟩ := h
    exact ⟨h1, h2, by omega, by omega⟩
  have H0 : Hid (Below w.heap.size w W ∧ Blk W w.heap.size 26 #[.int .i64 wi, .int .i64 pu, .slice a n c] ∧ Blk W (w.heap.size + 1) 74 #[.slice none 0 0, .slice none 0 0, .slice none 0 0, .slice none 0 0]) := ⟨hb, hs, hr⟩
  have hs1 : w.heap.size + 1 < W.heap.size := hr.lt
  have HM : Hid (m.length ≤ 1048576) := hm
  have CM : Hid (∀ (t wn : Nat) (b : Option Addr) (cp : Nat) (V : World), wn ≤ 20 → wn ≤ cp → Below w.heap.size w V → NAt 1 V V.heap.size (.slice b wn cp) wn (qapN ls n t wn) → Calls Try.prog 26 #[.slice b wn cp, .slice am m.length cm] V fun e w' => ∃ x, e = .returned x ∧ ZOwn V.heap.size w'.heap.size w' x (sideL ls n wn t m) ∧ Below V.heap.size V w') := fun t wn b cp V h1 h2 hV hN => by
    have h := iMixed_any b cp (.slice am m.length cm) (qapN ls n t wn) m (by rw [qapN_len]; omega) (HL.out t wn) HM.out (by rw [qapN_len]; exact h2) V (by rw [qapN_len]; exact hN) ((HU.out.on hV).wide hV.size)
    rw [qapN_len] at h
    exact h
  have CZ : Hid (n ≤ 16 → ∀ V, Calls Try.prog 81 #[.int .i64 (n : Int)] V fun e w' => ∃ u, e = .returned u ∧ ZOwn V.heap.size w'.heap.size w' u (zerL n) ∧ Below V.heap.size V w') := fun h V => by
    have h1 := iZer_any (n : Int) V
    rwa [pZer_nat h] at h1
  clear hA hu hb hz hwf hr hm
  generalize m.length = ml at *
  go_enter Try.func48, Try.ntmps48
  go_wp2_with (refine load_blk rfl rfl rfl hs Try.underlying26 infoSy ?_)
  clear hW hs
  refine CQ.out.mono ?_
  rintro e w1 (⟨h0, rfl, hb1⟩ | ⟨hok, U, V, X, us, vs, xs, rfl, hT, hb1⟩)
  · have hres := H0.out.2.2.on hb1 H0.out.2.2.lt
    have HB1 : Hid (Below w.heap.size w w1) := H0.out.1.trans (hb1.mono H0.out.1.size)
    have hres1 := hres.lt
    obtain ⟨V0, hV0, hb0, hs0⟩ := box1 w1 41 #[.slice none 0 0, .slice none 0 0, .slice none 0 0]
    go_wp2_with (first | (refine store_blkS (cs' := #[.slice none 0 0, .slice none 0 0, .slice none 0 0]) rfl rfl rfl rfl rfl hs0 infoQa rfl (onesQa _ _ _ _ _ _ _ _ _) ?_; intro V4 hq4 hheap hoth hbel; have hb4 := hbel _ _ (Nat.le_refl _) hb0; clear hoth hbel hheap; have hres2 := hres.on hb4 hres.lt) | (refine store_blkS (cs' := #[.slice none 0 0, .slice none 0 0, .slice none 0 0, .slice none 0 0]) rfl rfl rfl rfl rfl hres2 infoMx rfl (onesMx _ _ _ _ _ _ _ _ _ _ _ _) ?_; intro V8 h8 hheap hoth hbel; have hb8 := hbel _ _ (by omega) (HB1.out.trans (hb4.mono HB1.out.size)); clear hoth hbel hheap))
    refine bodyPost_ret_by (result_Btmp rfl rfl rfl h8 Try.underlying74 infoMx) rfl (.inl ⟨by rw [h0]; rfl, rfl, hb8⟩)
  · obtain ⟨hw1, hw2, hn1, hn2⟩ := HOKN.out hok
    have HOK : Hid (sysOk wi pu n ls = true) := hok
    obtain ⟨wn, hwn⟩ : ∃ wn, wi.toNat = wn := ⟨_, rfl⟩
    have HWN : Hid (wi.toNat = wn) := hwn
    rw [hwn] at hT
    have hwn20 : wn ≤ 20 := by omega
    obtain ⟨ua, uc, hu⟩ := row_form hT.u.row
    subst hu
    obtain ⟨va, vc, hv⟩ := row_form hT.v.row
    subst hv
    obtain ⟨xa, xc, hx⟩ := row_form hT.x.row
    subst hx
    have HCP : Hid (wn ≤ uc ∧ wn ≤ vc ∧ wn ≤ xc) := ⟨owns_cap hT.u.row, owns_cap hT.v.row, owns_cap hT.x.row⟩
    have HT : Hid (NAt 1 w1 w1.heap.size (.slice ua wn uc) wn (qapN ls n 0 wn) ∧ NAt 1 w1 w1.heap.size (.slice va wn vc) wn (qapN ls n 1 wn) ∧ NAt 1 w1 w1.heap.size (.slice xa wn xc) wn (qapN ls n 2 wn)) := ⟨hT.u.at, hT.v.at, hT.x.at⟩
    have HB1 : Hid (Below w.heap.size w w1 ∧ Blk w1 w.heap.size 26 #[.int .i64 wi, .int .i64 pu, .slice a n c] ∧ Blk w1 (w.heap.size + 1) 74 #[.slice none 0 0, .slice none 0 0, .slice none 0 0, .slice none 0 0]) := ⟨H0.out.1.trans (hb1.mono H0.out.1.size), H0.out.2.1.on hb1 H0.out.2.1.lt, H0.out.2.2.on hb1 H0.out.2.2.lt⟩
    have hs2 : w.heap.size + 1 < w1.heap.size := HB1.out.2.2.lt
    clear hT hb1 H0 CQ hok hwn HOKN
    obtain ⟨V0, hV0, hb0, hs0⟩ := box1 w1 41 #[.slice none 0 0, .slice none 0 0, .slice none 0 0]
    go_wp2_with (refine store_blkS (cs' := #[.slice ua wn uc, .slice va wn vc, .slice xa wn xc]) rfl rfl rfl rfl rfl hs0 infoQa rfl (onesQa _ _ _ _ _ _ _ _ _) ?_; intro w2 hq2 hheap hoth hbel; have hb2 := hbel _ _ (Nat.le_refl _) hb0; clear hoth hbel hheap; have q0 : w2.cell? ⟨w.heap.size, 0, none⟩ = some (.int .i64 wi) := (HB1.out.2.1.on hb2 HB1.out.2.1.lt).cell 0)
    have HB2 : Hid (Below w.heap.size w w2) := HB1.out.1.trans (hb2.mono HB1.out.1.size)
    refine (CW.out _ HB2.out).mono ?_
    rintro e w3 ⟨rfl, hb3⟩
    have hb13 : Below w1.heap.size w1 w3 := hb2.trans (hb3.mono hb2.size)
    have HB3 : Hid (Below w.heap.size w w3 ∧ Blk w3 w.heap.size 26 #[.int .i64 wi, .int .i64 pu, .slice a n c] ∧ Blk w3 (w.heap.size + 1) 74 #[.slice none 0 0, .slice none 0 0, .slice none 0 0, .slice none 0 0] ∧ Blk w3 w1.heap.size 41 #[.slice ua wn uc, .slice va wn vc, .slice xa wn xc]) := ⟨HB2.out.trans (hb3.mono HB2.out.size), HB1.out.2.1.on hb13 HB1.out.2.1.lt, HB1.out.2.2.on hb13 HB1.out.2.2.lt, hq2.on hb3 hq2.lt⟩
    have HT3 : Hid (NAt 1 w3 w3.heap.size (.slice ua wn uc) wn (qapN ls n 0 wn) ∧ NAt 1 w3 w3.heap.size (.slice va wn vc) wn (qapN ls n 1 wn) ∧ NAt 1 w3 w3.heap.size (.slice xa wn xc) wn (qapN ls n 2 wn)) := ⟨(HT.out.1.on hb13).wide hb13.size, (HT.out.2.1.on hb13).wide hb13.size, (HT.out.2.2.on hb13).wide hb13.size⟩
    have hs3 : w1.heap.size < w3.heap.size := HB3.out.2.2.2.lt
    clear hb13 hb3 hb2 hq2 q0 HB2 HT hV0 hb0 hs0 HB1 CW
    cases hwd : wide m wi
    · have hres := HB3.out.2.2.1
      go_wp2_with (refine store_blkS (cs' := #[.slice none 0 0, .slice none 0 0, .slice none 0 0, .slice none 0 0]) rfl rfl rfl rfl rfl hres infoMx rfl (onesMx _ _ _ _ _ _ _ _ _ _ _ _) ?_; intro V8 h8 hheap hoth hbel; have hb8 := hbel _ _ (by omega) HB3.out.1; clear hoth hbel hheap)
      refine bodyPost_ret_by (result_Btmp rfl rfl rfl h8 Try.underlying74 infoMx) rfl (.inl ⟨by rw [hwd, Bool.and_false], rfl, hb8⟩)
    · have T0 : Below w3.heap.size w3 w3.drew := (Below.refl _ _).drew
      have hq3 := HB3.out.2.2.2
      have hy3 := HB3.out.2.1
      go_wp2_with fail
      refine wp_region_ord [(0, false), (1, false), (2, false), (4, false), (5, false), (6, false), (8, false), (9, false), (10, false), (12, false), (13, false), (14, false), (3, true), (7, true), (11, true), (15, true), (16, false), (17, true), (18, false)] (fun wz => Blk wz w1.heap.size 41 #[.slice ua wn uc, .slice va wn vc, .slice xa wn xc] ∧ Blk wz w.heap.size 26 #[.int .i64 wi, .int .i64 pu, .slice a n c]) mixesSc (by kernel_rfl) ⟨hq3.drew, hy3.drew⟩ ?_
      repeat (refine ord_float rfl rfl (fun K hK => ⟨_, (fun w' hw => by have q0 := hw.1.cell 0; have q1 :=  hw.1.cell 1; have q2 :=  hw.1.cell 2; have q3 :=  hw.2.cell 2; go_simp; exact rfl), ?_⟩); go_simp; refine hK _ ?_; clear hK K)
      have D0 : Below w.heap.size w w3.drew := HB3.out.1.drew
      refine ord_call rfl rfl (fun K hK => ⟨_, _, (by go_simp <;> first | exact rfl | exact ⟨rfl, rfl⟩), ?_⟩)
      refine (CM.out 0 wn _ _ _ hwn20 HCP.out.1 D0 (HT3.out.1.on T0)).mono ?_
      rintro e u1 ⟨A, rfl, hA1, hu1⟩
      have T1 := T0.trans (hu1.mono T0.size)
      refine ⟨_, rfl, ⟨hq3.on T1 hq3.lt, hy3.on T1 hy3.lt⟩, ?_⟩
      go_simp
      refine hK _ _ ?_
      clear hK K
      repeat (refine ord_float rfl rfl (fun K hK => ⟨_, (fun w' hw => by have q0 := hw.1.cell 0; have q1 :=  hw.1.cell 1; have q2 :=  hw.1.cell 2; have q3 :=  hw.2.cell 2; go_simp; exact rfl), ?_⟩); go_simp; refine hK _ ?_; clear hK K)
      refine ord_call rfl rfl (fun K hK => ⟨_, _, (by go_simp <;> first | exact rfl | exact ⟨rfl, rfl⟩), ?_⟩)
      refine (CM.out 1 wn _ _ _ hwn20 HCP.out.2.1 (HB3.out.1.trans (T1.mono HB3.out.1.size)) ((HT3.out.2.1.on T1).wide T1.size)).mono ?_
      rintro e u2 ⟨B, rfl, hB1, hu2⟩
      have T2 := T1.trans (hu2.mono T1.size)
      refine ⟨_, rfl, ⟨hq3.on T2 hq3.lt, hy3.on T2 hy3.lt⟩, ?_⟩
      go_simp
      refine hK _ _ ?_
      clear hK K
      repeat (refine ord_float rfl rfl (fun K hK => ⟨_, (fun w' hw => by have q0 := hw.1.cell 0; have q1 :=  hw.1.cell 1; have q2 :=  hw.1.cell 2; have q3 :=  hw.2.cell 2; go_simp; exact rfl), ?_⟩); go_simp; refine hK _ ?_; clear hK K)
      refine ord_call rfl rfl (fun K hK => ⟨_, _, (by go_simp <;> first | exact rfl | exact ⟨rfl, rfl⟩), ?_⟩)
      refine (CM.out 2 wn _ _ _ hwn20 HCP.out.2.2 (HB3.out.1.trans (T2.mono HB3.out.1.size)) ((HT3.out.2.2.on T2).wide T2.size)).mono ?_
      rintro e u3 ⟨C, rfl, hC1, hu3⟩
      have T3 := T2.trans (hu3.mono T2.size)
      refine ⟨_, rfl, ⟨hq3.on T3 hq3.lt, hy3.on T3 hy3.lt⟩, ?_⟩
      go_simp
      refine hK _ _ ?_
      clear hK K
      repeat (refine ord_float rfl rfl (fun K hK => ⟨_, (fun w' hw => by have q0 := hw.1.cell 0; have q1 :=  hw.1.cell 1; have q2 :=  hw.1.cell 2; have q3 :=  hw.2.cell 2; go_simp; exact rfl), ?_⟩); go_simp; refine hK _ ?_; clear hK K)
      refine ord_call rfl rfl (fun K hK => ⟨_, _, (by go_simp <;> first | exact rfl | exact ⟨rfl, rfl⟩), ?_⟩)
      refine (CZ.out hn2 _).mono ?_
      rintro e u4 ⟨Z, rfl, hZ1, hu4⟩
      have T4 := T3.trans (hu4.mono T3.size)
      refine ⟨_, rfl, ⟨hq3.on T4 hq3.lt, hy3.on T4 hy3.lt⟩, ?_⟩
      go_simp
      refine hK _ _ ?_
      clear hK K
      obtain ⟨Aa, Ac, hAv⟩ := row_form hA1.1
      subst hAv
      obtain ⟨Ba, Bc, hBv⟩ := row_form hB1.1
      subst hBv
      obtain ⟨Ca, Cc, hCv⟩ := row_form hC1.1
      subst hCv
      obtain ⟨Za, Zc, hZv⟩ := row_form hZ1.1
      subst hZv
      repeat (refine ord_float rfl rfl (fun K hK => ⟨_, (fun w' hw => by have q0 := hw.1.cell 0; have q1 :=  hw.1.cell 1; have q2 :=  hw.1.cell 2; have q3 :=  hw.2.cell 2; go_simp; exact rfl), ?_⟩); go_simp; refine hK _ ?_; clear hK K)
      have hres := HB3.out.2.2.1.on T4 HB3.out.2.2.1.lt
      have s3 : w3.heap.size ≤ w3.drew.heap.size := T0.size
      have s1 := T1.size
      have s2 := T2.size
      have s4 := T3.size
      have s5 := T4.size
      have r2 := hu2.size
      have r3 := hu3.size
      have r4 := hu4.size
      refine ord_storeS (cs' := #[.slice Aa (sideL ls n wn 0 m).length Ac, .slice Ba (sideL ls n wn 1 m).length Bc, .slice Ca (sideL ls n wn 2 m).length Cc, .slice Za (zerL n).length Zc]) rfl rfl rfl rfl rfl rfl hres infoMx rfl (onesMx _ _ _ _ _ _ _ _ _ _ _ _) ?_
      intro V8 h8 hheap hoth hbel
      have hb8 := hbel _ _ (by omega) (HB3.out.1.trans (T4.mono HB3.out.1.size))
      have hb9 := hbel 0 u4 (Nat.zero_le _) (Below.refl _ _)
      refine ⟨⟨hoth _ _ _ (by omega) (hq3.on T4 hq3.lt), hoth _ _ _ (by omega) (hy3.on T4 hy3.lt)⟩, ?_⟩
      repeat (refine ord_float rfl rfl (fun K hK => ⟨_, (fun w' hw => by have q0 := hw.1.cell 0; have q1 :=  hw.1.cell 1; have q2 :=  hw.1.cell 2; have q3 :=  hw.2.cell 2; go_simp; exact rfl), ?_⟩); go_simp; refine hK _ ?_; clear hK K)
      refine ord_nil ?_
      have hs9 := hb9.size
      have HF : Hid (ZAt V8 V8.heap.size (.slice Aa (sideL ls n wn 0 m).length Ac) (sideL ls n wn 0 m) ∧ ZAt V8 V8.heap.size (.slice Ba (sideL ls n wn 1 m).length Bc) (sideL ls n wn 1 m) ∧ ZAt V8 V8.heap.size (.slice Ca (sideL ls n wn 2 m).length Cc) (sideL ls n wn 2 m) ∧ ZAt V8 V8.heap.size (.slice Za (zerL n).length Zc) (zerL n)) := by
        refine ⟨?_, ?_, ?_, ?_⟩
        · exact (((((hA1.on hu2 (Nat.le_refl _)).on hu3 r2).on hu4 (by omega)).same (fun k h1 h2 => hheap k (by omega))).at).wide (by omega)
        · exact ((((hB1.on hu3 (Nat.le_refl _)).on hu4 r3).same (fun k h1 h2 => hheap k (by omega))).at).wide (by omega)
        · exact (((hC1.on hu4 (Nat.le_refl _)).same (fun k h1 h2 => hheap k (by omega))).at).wide (by omega)
        · exact ((hZ1.same (fun k h1 h2 => hheap k (by omega))).at).wide (by omega)
      clear hA1 hB1 hC1 hZ1 hu1 hu2 hu3 hu4 T0 T1 T2 T3 T4 hres hheap hoth hbel hb9
      go_wp2
      refine bodyPost_ret_by (result_Btmp rfl rfl rfl h8 Try.underlying74 infoMx) rfl (.inr ⟨by rw [HOK.out, hwd]; rfl, _, _, _, _, _, _, _, _, _, _, _, _, rfl, ?_⟩)
      rw [HWN.out]
      exact ⟨HF.out.1, HF.out.2.1, HF.out.2.2.1, HF.out.2.2.2, hb8⟩

end Go.Proofs.Ytjlijflfepffiaa
