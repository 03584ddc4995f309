/-
  Texts of one's own, joined.
-/
import Derived.Test.YtjlijflfepffiaaJoined16
import Derived.Test.YtjlijflfepffiaaQapS
import Derived.Test.YtjlijflfepffiaaQapS2
import Derived.Test.YtjlijflfepffiaaPolyS

/-
  What is mixed, in one form.
  (-DROP-: what the seat lacks is left out.)
-/
namespace Go.Proofs.Ytjlijflfepffiaa
open Go.RowKit

theorem iMixV (a : Option Addr) (n c : Nat) (ls : List (List Int)) (hn : n ≤ 1048576) (hz : ∀ j, (ls.getD j []).length ≤ 1048576) (v : Value) (m : List Int) (hm : m.length ≤ 1048576) (w : World) (hA : n ≤ c ∧ NAt 1 w w.heap.size (.slice a n c) n ls) (hu : ZAt w w.heap.size v m) :
    Calls Try.prog 26 #[.slice a n c, v] w fun e w' => ∃ x, e = .returned x ∧ ZOwn w.heap.size w'.heap.size w' x (pMix ls m) ∧ Below w.heap.size w w' := by
  have hl : ls.length = n := by have := hA.2.1; omega
  subst hl
  exact iMixed_any a c v ls m hn hz hm hA.1 w hA.2 hu
theorem sMixV (a : Option Addr) (n c : Nat) (ls : List (List Int)) (hn : n ≤ 1048576) (hz : ∀ j, (ls.getD j []).length ≤ 1048576) (v : Value) (m : List Int) (hm : m.length ≤ 1048576) (w : World) (hA : n ≤ c ∧ NAt 1 w w.heap.size (.slice a n c) n ls) (hu : ZAt w w.heap.size v m) :
    Calls Try.prog 27 #[.slice a n c, v] w fun e w' => ∃ x, e = .returned x ∧ ZOwn w.heap.size w'.heap.size w' x (pMix ls m) ∧ Below w.heap.size w w' := by
  have hl : ls.length = n := by have := hA.2.1; omega
  subst hl
  exact sMix_any (.slice a ls.length c) v ls m hn hz hm w hA.2 hu
theorem pMix_len (L : List (List Int)) (m : List Int) (hz : ∀ j, (L.getD j []).length ≤ 1048576) : (pMix L m).length ≤ 1048576 := mixN_len L m _ _ fun i _ => hz i


end Go.Proofs.Ytjlijflfepffiaa

/-
  The walks of the specification's rows as one product: both sides, the quotient, whether it holds.
  (-DROP-: what the seat lacks is left out.)
-/
namespace Go.Proofs.Ytjlijflfepffiaa
open Go.RowKit

/-- One side of a system for numbers. -/
def sideL (ls : List (List Int)) (n wn t : Nat) (m : List Int) : List Int := pMix (qapN ls n t wn) m
theorem sideL_small (ls : List (List Int)) (n wn t : Nat) (m : List Int) (hn : n ≤ 16) (hm : m.length = wn) : sideL ls n wn t m = mixN (qapN ls n t wn) m wn ∧ (sideL ls n wn t m).length ≤ n := by
  have e : sideL ls n wn t m = mixN (qapN ls n t wn) m wn := by
    unfold sideL pMix
    rw [qapN_len, hm, Nat.min_self]
  exact ⟨e, by rw [e]; exact mix_small ls m t hn⟩

/-- What the two sides leave. -/
def PartsEnd (w : World) (ls : List (List Int)) (n wn : Nat) (m : List Int) (e : Ending) (w' : World) : Prop :=
  ∃ A B C, e = .returned (.tuple #[A, B, C]) ∧ ZAt w' w'.heap.size A (sideL ls n wn 0 m) ∧ ZAt w' w'.heap.size B (sideL ls n wn 1 m) ∧ ZAt w' w'.heap.size C (sideL ls n wn 2 m) ∧ Below w.heap.size w w'

set_option maxHeartbeats 3200000 in
set_option maxRecDepth 100000 in
theorem sParts_any (wi pu : Int) (hwf : (Lit.int .i64 wi).wf = true) (a : Option Addr) (n c : Nat) (hn : n ≤ 9223372036854775807) (ls : List (List Int)) (hz : ∀ j, (ls.getD j []).length ≤ 9223372036854775807) (hok : sysOk wi pu n ls = true) (u : Value) (m : List Int) (hm : m.length ≤ 1048576) (w : World) (hA : NAt 3 w w.heap.size (.slice a n c) n ls) (hu : ZAt w w.heap.size u m) :
    Calls Try.prog 61 #[sysV wi pu (.slice a n c), u] w fun e w' => PartsEnd w ls n wi.toNat m e w' := by
  obtain ⟨W, hW, hb, hs⟩ := box1 w 26 #[.int .i64 wi, .int .i64 pu, .slice a n c]
  have HA : Hid (NAt 3 W W.heap.size (.slice a n c) n ls) := (hA.on hb).wide hb.size
  have HU : Hid (ZAt W W.heap.size u m) := (hu.on hb).wide hb.size
  have HB : Hid (Below w.heap.size w W) := hb
  have hok1 := hok
  unfold sysOk at hok1
  simp only [Bool.and_eq_true, decide_eq_true_eq] at hok1
  obtain ⟨⟨hw1, hw2⟩, _, ⟨hn1, hn2⟩, _⟩ := hok1
  have CQ : Hid (Calls Try.prog 19 #[.agg #[.int .i64 wi, .int .i64 pu, .slice a n c]] W fun e w' => QapEnd W wi pu n ls e w') := sQapOf_any wi pu hwf a n c hn ls hz W HA.out
  have HOK : Hid (sysOk wi pu n ls = true) := hok
  obtain ⟨wn, hwn⟩ : ∃ wn, wi.toNat = wn := ⟨_, rfl⟩
  have hwl : wn ≤ 20 := by omega
  have HL : Hid (∀ t j, ((qapN ls n t wn).getD j []).length ≤ 1048576) := fun t j => by
    by_cases hj : j < wn
    · rw [qapN_at ls n t wn j hj]
      exact pThr_len _
    · rw [List.getD_eq_getElem?_getD, List.getElem?_eq_none (by rw [qapN_len]; omega)]
      exact Nat.zero_le _
  rw [hwn]
  have HWN : Hid (wi.toNat = wn) := hwn
  clear hA hu hb hz hwf hok hwn
  unfold sysV
  go_enter Try.func61, Try.ntmps61
  go_wp2_with (refine load_blk rfl rfl rfl hs Try.underlying26 infoSy ?_)
  clear hW hs
  refine CQ.out.mono ?_
  rintro e w1 (⟨h0, _, _⟩ | ⟨_, U, V, X, us, vs, xs, rfl, hT, hb1⟩)
  · rw [HOK.out] at h0
    cases h0
  · rw [HWN.out] at hT
    have HT : Hid (Tri 27 W.heap.size w1.heap.size w1 U wn us (qapN ls n 0 wn) V wn vs (qapN ls n 1 wn) X wn xs (qapN ls n 2 wn)) := hT
    obtain ⟨ua, uc, hu⟩ := row_form hT.u.row
    subst hu
    obtain ⟨va, vc, hv⟩ := row_form hT.v.row
    subst hv
    obtain ⟨xa, xc, hx⟩ := row_form hT.x.row
    subst hx
    have HU1 : Hid (ZAt w1 w1.heap.size u m) := (HU.out.on hb1).wide hb1.size
    have HB1 : Hid (Below w.heap.size w w1) := HB.out.trans (hb1.mono HB.out.size)
    clear hT hb1 HU HB CQ
    obtain ⟨V0, hV0, hb0, hs0⟩ := box1 w1 41 #[.slice none 0 0, .slice none 0 0, .slice none 0 0]
    go_wp2_with (refine store_blkS (cs' := #[.slice ua wn uc, .slice va wn vc, .slice xa wn xc]) rfl rfl rfl rfl rfl hs0 infoQa rfl (onesQa _ _ _ _ _ _ _ _ _) ?_; intro w2 hq2 hheap hoth hbel; have hb2 := hbel _ _ (Nat.le_refl _) hb0; clear hoth hbel hheap)
    have HU2 : Hid (ZAt w2 w2.heap.size u m) := (HU1.out.on hb2).wide hb2.size
    have HB2 : Hid (Below w.heap.size w w2) := HB1.out.trans (hb2.mono HB1.out.size)
    have HN0 : Hid (NAt 1 w2 w2.heap.size (.slice ua wn uc) (qapN ls n 0 wn).length (qapN ls n 0 wn)) := by rw [qapN_len]; exact (HT.out.u.at.on hb2).wide hb2.size
    have HN1 : Hid (NAt 1 w2 w2.heap.size (.slice va wn vc) (qapN ls n 1 wn).length (qapN ls n 1 wn)) := by rw [qapN_len]; exact (HT.out.v.at.on hb2).wide hb2.size
    have HN2 : Hid (NAt 1 w2 w2.heap.size (.slice xa wn xc) (qapN ls n 2 wn).length (qapN ls n 2 wn)) := by rw [qapN_len]; exact (HT.out.x.at.on hb2).wide hb2.size
    have HQ2 : Hid (Blk w2 w1.heap.size 41 #[.slice ua wn uc, .slice va wn vc, .slice xa wn xc]) := hq2
    clear hV0 hb0 hs0 hb2 hq2 HT HU1 HB1
    have CM : Hid (∀ (t : Nat) (v : Value) (W : World), Below w2.heap.size w2 W → NAt 1 w2 w2.heap.size v (qapN ls n t wn).length (qapN ls n t wn) → Calls Try.prog 27 #[v, u] W fun e w' => ∃ x, e = .returned x ∧ ZOwn W.heap.size w'.heap.size w' x (sideL ls n wn t m) ∧ Below W.heap.size W w') := fun t v W hW hv => sMix_any v u _ m (by rw [qapN_len]; omega) (HL.out t) hm W ((hv.on hW).wide hW.size) ((HU2.out.on hW).wide hW.size)
    have T0 : Below w2.heap.size w2 w2.drew := (Below.refl _ _).drew
    refine wp_region_ord [(0, false), (1, false), (2, false), (4, false), (5, false), (6, false), (8, false), (9, false), (10, false), (3, true), (7, true), (11, true), (12, false), (13, false), (14, false)] (fun wz => Below w2.heap.size w2 wz) mixesSc (by kernel_rfl) T0 ?_
    repeat (refine ord_float rfl rfl (fun K hK => ⟨_, (fun w' hw => by have q0 := (HQ2.out.on hw HQ2.out.lt).cell 0; have q1 :=  (HQ2.out.on hw HQ2.out.lt).cell 1; have q2 :=  (HQ2.out.on hw HQ2.out.lt).cell 2; go_simp; exact rfl), ?_⟩); go_simp; refine hK _ ?_; clear hK K)
    refine ord_call rfl rfl (fun K hK => ⟨_, _, (by go_simp <;> first | exact rfl | exact ⟨rfl, rfl⟩), ?_⟩)
    refine (CM.out 0 _ _ T0 HN0.out).mono ?_
    rintro e u1 ⟨A, rfl, hA1, hu1⟩
    have T1 := T0.trans (hu1.mono T0.size)
    refine ⟨_, rfl, T1, ?_⟩
    go_simp
    refine hK _ _ ?_
    clear hK K
    repeat (refine ord_float rfl rfl (fun K hK => ⟨_, (fun w' hw => by have q0 := (HQ2.out.on hw HQ2.out.lt).cell 1; go_simp; exact rfl), ?_⟩); go_simp; refine hK _ ?_; clear hK K)
    refine ord_call rfl rfl (fun K hK => ⟨_, _, (by go_simp <;> first | exact rfl | exact ⟨rfl, rfl⟩), ?_⟩)
    refine (CM.out 1 _ _ T1 HN1.out).mono ?_
    rintro e u2 ⟨B, rfl, hB1, hu2⟩
    have T2 := T1.trans (hu2.mono T1.size)
    refine ⟨_, rfl, T2, ?_⟩
    go_simp
    refine hK _ _ ?_
    clear hK K
    repeat (refine ord_float rfl rfl (fun K hK => ⟨_, (fun w' hw => by have q0 := (HQ2.out.on hw HQ2.out.lt).cell 2; go_simp; exact rfl), ?_⟩); go_simp; refine hK _ ?_; clear hK K)
    refine ord_call rfl rfl (fun K hK => ⟨_, _, (by go_simp <;> first | exact rfl | exact ⟨rfl, rfl⟩), ?_⟩)
    refine (CM.out 2 _ _ T2 HN2.out).mono ?_
    rintro e u3 ⟨C, rfl, hC1, hu3⟩
    have T3 := T2.trans (hu3.mono T2.size)
    refine ⟨_, rfl, T3, ?_⟩
    go_simp
    refine hK _ _ ?_
    clear hK K
    repeat (refine ord_float rfl rfl (fun K hK => ⟨_, (fun w' hw => by have q0 := (HQ2.out.on hw HQ2.out.lt).cell 2; go_simp; exact rfl), ?_⟩); go_simp; refine hK _ ?_; clear hK K)
    refine ord_nil ?_
    have HFA : Hid (ZAt u3 u3.heap.size A (sideL ls n wn 0 m) ∧ ZAt u3 u3.heap.size B (sideL ls n wn 1 m) ∧ ZAt u3 u3.heap.size C (sideL ls n wn 2 m) ∧ Below w.heap.size w u3) := ⟨(((hA1.at.on hu2).wide hu2.size).on hu3).wide hu3.size, (hB1.at.on hu3).wide hu3.size, hC1.at, HB2.out.trans (T3.mono HB2.out.size)⟩
    clear hA1 hB1 hC1 hu1 hu2 hu3 T0 T1 T2 T3 HN0 HN1 HN2 HQ2 CM
    go_wp2
    go_ret3
    exact ⟨A, B, C, rfl, HFA.out.1, HFA.out.2.1, HFA.out.2.2.1, HFA.out.2.2.2⟩

end Go.Proofs.Ytjlijflfepffiaa
