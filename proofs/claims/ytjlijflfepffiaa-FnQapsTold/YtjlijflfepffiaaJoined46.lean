/-
  Texts of one's own, joined.
-/
import Derived.Test.YtjlijflfepffiaaQapI6
import Derived.Test.YtjlijflfepffiaaQapI3
import Derived.Test.YtjlijflfepffiaaJoined9
import Derived.Test.YtjlijflfepffiaaQapS
import Derived.Test.YtjlijflfepffiaaRwAny

/-
  The walk of the program's word on whether a system holds at a place.
  (-DROP-: what the seat lacks is left out.)
-/
namespace Go.Proofs.Ytjlijflfepffiaa
open Go.RowKit

set_option maxHeartbeats 3200000 in
set_option maxRecDepth 100000 in
theorem iHolds_any (wi pu : Int) (hwf : (Lit.int .i64 wi).wf = true) (a : Option Addr) (n c : Nat) (hn : n ≤ 9223372036854775807) (ls : List (List Int)) (hz : ∀ j, (ls.getD j []).length ≤ 9223372036854775807) (am : Option Addr) (cm : Nat) (m : List Int) (hm : m.length ≤ 1048576) (x : Int) (w : World) (hA : NAt 3 w w.heap.size (.slice a n c) n ls) (hu : ZAt w w.heap.size (.slice am m.length cm) m) :
    Calls Try.prog 16 #[sysV wi pu (.slice a n c), .slice am m.length cm, .int .i64 x] w fun e w' => e = .returned (.bool (quotB wi pu n ls m)) ∧ Below w.heap.size w w' := by
  obtain ⟨W, hW, hb, hs⟩ := box1 w 26 #[.int .i64 wi, .int .i64 pu, .slice a n c]
  have HB : Hid (Below w.heap.size w W) := hb
  have CX : Hid (Calls Try.prog 48 #[.agg #[.int .i64 wi, .int .i64 pu, .slice a n c], .slice am m.length cm] W fun e w' => MixEnd W wi pu n ls m e w') := iMixture_any wi pu hwf a n c hn ls hz am cm m hm W ((hA.on hb).wide hb.size) ((hu.on hb).wide hb.size)
  have HQB : Hid (quotB wi pu n ls m = (sysOk wi pu n ls && (wide m wi && (pRem (topL ls n wi.toNat m) (zerL n)).isEmpty))) := rfl
  have HQL : Hid (quotL wi pu n ls m = if quotB wi pu n ls m then pQuo (topL ls n wi.toNat m) (zerL n) else []) := rfl
  have HSM : Hid ((sysOk wi pu n ls && wide m wi) = true → (sideL ls n wi.toNat 0 m).length ≤ 1000 ∧ (sideL ls n wi.toNat 1 m).length ≤ 1000 ∧ (sideL ls n wi.toNat 2 m).length ≤ 1000 ∧ (zerL n).length ≤ 1000) := fun h => mix_small3 h
  have HAT : Hid (quotB wi pu n ls m = true → scMul (pAt (sideL ls n wi.toNat 0 m) x) (pAt (sideL ls n wi.toNat 1 m) x) = scAdd (pAt (sideL ls n wi.toNat 2 m) x) (scMul (pAt (quotL wi pu n ls m) x) (pAt (zerL n) x))) := fun h => by
    obtain ⟨_, _, _, h3, h4, h5, h6⟩ := quotB_parts h
    rw [HQL.out, h, if_pos rfl]
    exact quo_at h3 h4 (sideL_small ls n wi.toNat 0 m h4 h5).2 (sideL_small ls n wi.toNat 1 m h4 h5).2 (sideL_small ls n wi.toNat 2 m h4 h5).2 h6 x
  have HQN : Hid ((quotL wi pu n ls m).length ≤ 1000) := by
    show _ ≤ _
    rw [HQL.out]
    split
    · exact Nat.le_trans (pQuo_64 _ _) (by decide)
    · exact Nat.zero_le _
  clear hA hu hb hz hwf
  unfold sysV
  generalize m.length = ml at *
  go_enter Try.func16, Try.ntmps16
  go_wp2_with (refine load_blk rfl rfl rfl hs Try.underlying26 infoSy ?_)
  clear hW
  refine CX.out.mono ?_
  rintro e w1 (⟨h0, rfl, hb1⟩ | ⟨h1, a0, n0, c0, a1, n1, c1, a2, n2, c2, a3, n3, c3, rfl, hA, hB, hC, hZ, hb1⟩)
  · have HE : Hid (quotB wi pu n ls m = false) := by show _ = _; rw [HQB.out, ← Bool.and_assoc, h0]; rfl
    have HB1 : Hid (Below w.heap.size w w1) := HB.out.trans (hb1.mono HB.out.size)
    obtain ⟨V0, hV0, hb0, hs0⟩ := box1 w1 74 #[.slice none 0 0, .slice none 0 0, .slice none 0 0, .slice none 0 0]
    go_wp2_with (refine store_blkS (cs' := #[.slice none 0 0, .slice none 0 0, .slice none 0 0, .slice none 0 0]) rfl rfl rfl rfl rfl hs0 infoMx rfl (onesMx _ _ _ _ _ _ _ _ _ _ _ _) ?_; intro w2 hq2 hheap hoth hbel; have hb2 := hbel _ _ (Nat.le_refl _) hb0; clear hoth hbel hheap)
    go_ret
    exact ⟨by rw [HE.out]; rfl, HB1.out.trans (hb2.mono HB1.out.size)⟩
  · have HE : Hid (quotB wi pu n ls m = (pRem (topL ls n wi.toNat m) (zerL n)).isEmpty) := by show _ = _; rw [HQB.out, ← Bool.and_assoc, h1, Bool.true_and]
    obtain ⟨s0, s1, s2, s3⟩ := HSM.out h1
    have HB1 : Hid (Below w.heap.size w w1) := HB.out.trans (hb1.mono HB.out.size)
    obtain ⟨V0, hV0, hb0, hs0⟩ := box1 w1 74 #[.slice none 0 0, .slice none 0 0, .slice none 0 0, .slice none 0 0]
    have CQ : Hid (∀ V, Below w1.heap.size w1 V → Calls Try.prog 49 #[.agg #[.slice a0 n0 c0, .slice a1 n1 c1, .slice a2 n2 c2, .slice a3 n3 c3]] V fun e w' => ∃ q, e = .returned (.tuple #[q, .bool (quotB wi pu n ls m)]) ∧ ZOwn V.heap.size w'.heap.size w' q (quotL wi pu n ls m) ∧ Below V.heap.size V w') := fun V hV => by
      have h := iQuotient_any a0 n0 c0 a1 n1 c1 a2 n2 c2 a3 n3 c3 _ _ _ _ s0 s1 s2 s3 V ((hA.on hV).wide hV.size) ((hB.on hV).wide hV.size) ((hC.on hV).wide hV.size) ((hZ.on hV).wide hV.size)
      rw [HQL.out, HE.out]
      exact h
    have CH : Hid (quotB wi pu n ls m = true → ∀ (q : Value) V, Below w1.heap.size w1 V → ZAt V V.heap.size q (quotL wi pu n ls m) → Calls Try.prog 51 #[.agg #[.slice a0 n0 c0, .slice a1 n1 c1, .slice a2 n2 c2, .slice a3 n3 c3], .int .i64 x, q] V fun e w' => e = .returned (.bool true) ∧ Below V.heap.size V w') := fun hq q V hV hD => iHoldsAt_any a0 n0 c0 a1 n1 c1 a2 n2 c2 a3 n3 c3 _ _ _ _ _ x q s0 s1 s2 s3 HQN.out V ((hA.on hV).wide hV.size) ((hB.on hV).wide hV.size) ((hC.on hV).wide hV.size) ((hZ.on hV).wide hV.size) hD (HAT.out hq)
    clear hA hB hC hZ HAT HE HQB HQL
    go_wp2_with (first
      | (refine store_blkS (cs' := #[.slice a0 n0 c0, .slice a1 n1 c1, .slice a2 n2 c2, .slice a3 n3 c3]) rfl rfl rfl rfl rfl hs0 infoMx rfl (onesMx _ _ _ _ _ _ _ _ _ _ _ _) ?_; intro w2 hq2 hheap hoth hbel; have hb2 := hbel _ _ (Nat.le_refl _) hb0; clear hoth hbel hheap)
      | (refine load_blk rfl rfl rfl hq2 Try.underlying74 infoMx ?_))
    refine (CQ.out _ hb2).mono ?_
    rintro e w3 ⟨q, rfl, hq, hb3⟩
    have hb13 : Below w1.heap.size w1 w3 := hb2.trans (hb3.mono hb2.size)
    have HB3 : Hid (Below w.heap.size w w3) := HB1.out.trans (hb13.mono HB1.out.size)
    have hq3 := hq2.on hb3 hq2.lt
    have HQA : Hid (ZAt w3 w3.heap.size q (quotL wi pu n ls m)) := hq.at
    have H13 : Hid (Below w1.heap.size w1 w3) := hb13
    clear hb2 hb3 hb13 hq hq2 CQ hV0 hb0 hs0
    cases hqb : quotB wi pu n ls m
    · go_wp2
      go_ret
      exact ⟨by first | rfl | (rw [hqb]; rfl), HB3.out⟩
    · have CHH : Hid (Calls Try.prog 51 #[.agg #[.slice a0 n0 c0, .slice a1 n1 c1, .slice a2 n2 c2, .slice a3 n3 c3], .int .i64 x, q] w3 fun e w' => e = .returned (.bool true) ∧ Below w3.heap.size w3 w') := CH.out hqb q w3 H13.out HQA.out
      have e0 : w3.cell? ⟨w1.heap.size, 0, none⟩ = some (.slice a0 n0 c0) := hq3.cell 0
      have e1 : w3.cell? ⟨w1.heap.size, 1, none⟩ = some (.slice a1 n1 c1) := hq3.cell 1
      have e2 : w3.cell? ⟨w1.heap.size, 2, none⟩ = some (.slice a2 n2 c2) := hq3.cell 2
      have e3 : w3.cell? ⟨w1.heap.size, 3, none⟩ = some (.slice a3 n3 c3) := hq3.cell 3
      clear hq3
      go_wp2_with fail
      refine CHH.out.mono ?_
      rintro e w4 ⟨rfl, hb4⟩
      go_wp2
      go_ret
      exact ⟨by first | rfl | (rw [hqb]; rfl), HB3.out.trans (hb4.mono HB3.out.size)⟩

end Go.Proofs.Ytjlijflfepffiaa

/-
  A polynomial of each wire, in one form.
  (-DROP-: what the seat lacks is left out.)
-/
namespace Go.Proofs.Ytjlijflfepffiaa
open Go.RowKit

theorem Blk.c30 {w : World} {g t : Nat} {a b c : Value} (h : Blk w g t #[a, b, c]) : w.cell? ⟨g, 0, none⟩ = some a := h.cell 0
theorem Blk.c31 {w : World} {g t : Nat} {a b c : Value} (h : Blk w g t #[a, b, c]) : w.cell? ⟨g, 1, none⟩ = some b := h.cell 1
theorem Blk.c32 {w : World} {g t : Nat} {a b c : Value} (h : Blk w g t #[a, b, c]) : w.cell? ⟨g, 2, none⟩ = some c := h.cell 2
/-- How many there are of each. -/
def qapC (wi pu : Int) (n : Nat) (ls : List (List Int)) : Nat := if sysOk wi pu n ls then wi.toNat else 0
theorem qapC_le (wi pu : Int) (n : Nat) (ls : List (List Int)) : qapC wi pu n ls ≤ 20 := by
  unfold qapC
  split
  · next h =>
    unfold sysOk at h
    simp only [Bool.and_eq_true, decide_eq_true_eq] at h
    omega
  · exact Nat.zero_le _
theorem qap_end {w : World} {wi pu : Int} {n : Nat} {ls : List (List Int)} {e : Ending} {w' : World} (h : QapEnd w wi pu n ls e w') : ∃ vuR vvR vxR usR vsR xsR, e = .returned (.tuple #[.agg #[vuR, vvR, vxR], .bool (sysOk wi pu n ls)]) ∧ Tri 27 w.heap.size w'.heap.size w' vuR (qapC wi pu n ls) usR (qapN ls n 0 (qapC wi pu n ls)) vvR (qapC wi pu n ls) vsR (qapN ls n 1 (qapC wi pu n ls)) vxR (qapC wi pu n ls) xsR (qapN ls n 2 (qapC wi pu n ls)) ∧ Below w.heap.size w w' := by
  rcases h with ⟨h0, rfl, hb⟩ | ⟨h1, U, V, X, us, vs, xs, rfl, hT, hb⟩
  · have e0 : qapC wi pu n ls = 0 := by unfold qapC; rw [h0]; rfl
    rw [e0, h0]
    exact ⟨_, _, _, [], [], [], rfl, ⟨nown_nil _ _ _ _ _, nown_nil _ _ _ _ _, nown_nil _ _ _ _ _, fun k h => by rcases h with h | ⟨i, hi, _⟩; cases h; omega, fun k h => by rcases h with h | ⟨i, hi, _⟩; cases h; omega, fun k h => by rcases h with h | ⟨i, hi, _⟩; cases h; omega⟩, hb⟩
  · have e1 : qapC wi pu n ls = wi.toNat := by unfold qapC; rw [h1]; rfl
    rw [e1, h1]
    exact ⟨U, V, X, us, vs, xs, rfl, hT, hb⟩
theorem qapN_small (ls : List (List Int)) (n t k j : Nat) : ((qapN ls n t k).getD j []).length ≤ 1048576 := by
  by_cases hj : j < k
  · rw [qapN_at ls n t k j hj]
    exact pThr_len _
  · rw [List.getD_eq_getElem?_getD, List.getElem?_eq_none (by rw [qapN_len]; omega)]
    exact Nat.zero_le _
theorem tot_le : ∀ (L : List (List Int)) (b : Nat), (∀ l, l ∈ L → l.length ≤ b) → tot L ≤ L.length * b
  | [], b, _ => by show 0 ≤ _; omega
  | l :: t, b, h => by
    have h1 := h l List.mem_cons_self
    have h2 := tot_le t b fun x hx => h x (List.mem_cons_of_mem _ hx)
    show l.length + tot t ≤ (t.length + 1) * b
    rw [Nat.add_mul]
    omega
theorem qapN_tot (ls : List (List Int)) (n t k : Nat) (hk : k ≤ 20) : tot (qapN ls n t k) ≤ 20971520 := by
  have h := tot_le (qapN ls n t k) 1048576 fun l hl => by
    obtain ⟨j, hj, rfl⟩ := List.getElem_of_mem hl
    have := qapN_small ls n t k j
    rwa [List.getD_eq_getElem?_getD, List.getElem?_eq_getElem hj] at this
  rw [qapN_len] at h
  omega
theorem iQapV (wi pu : Int) (hwf : (Lit.int .i64 wi).wf = true) (a : Option Addr) (n c : Nat) (hn : n ≤ 9223372036854775807) (ls : List (List Int)) (hz : ∀ j, (ls.getD j []).length ≤ 9223372036854775807) (w : World) (hA : NAt 3 w w.heap.size (.slice a n c) n ls) :
    Calls Try.prog 18 #[sysV wi pu (.slice a n c)] w fun e w' => ∃ vuR vvR vxR usR vsR xsR, e = .returned (.tuple #[.agg #[vuR, vvR, vxR], .bool (sysOk wi pu n ls)]) ∧ Tri 27 w.heap.size w'.heap.size w' vuR (qapC wi pu n ls) usR (qapN ls n 0 (qapC wi pu n ls)) vvR (qapC wi pu n ls) vsR (qapN ls n 1 (qapC wi pu n ls)) vxR (qapC wi pu n ls) xsR (qapN ls n 2 (qapC wi pu n ls)) ∧ Below w.heap.size w w' :=
  (iQapOf_any wi pu hwf a n c hn ls hz w hA).mono fun _ _ h => qap_end h
theorem sQapV (wi pu : Int) (hwf : (Lit.int .i64 wi).wf = true) (a : Option Addr) (n c : Nat) (hn : n ≤ 9223372036854775807) (ls : List (List Int)) (hz : ∀ j, (ls.getD j []).length ≤ 9223372036854775807) (w : World) (hA : NAt 3 w w.heap.size (.slice a n c) n ls) :
    Calls Try.prog 19 #[sysV wi pu (.slice a n c)] w fun e w' => ∃ vuR vvR vxR usR vsR xsR, e = .returned (.tuple #[.agg #[vuR, vvR, vxR], .bool (sysOk wi pu n ls)]) ∧ Tri 27 w.heap.size w'.heap.size w' vuR (qapC wi pu n ls) usR (qapN ls n 0 (qapC wi pu n ls)) vvR (qapC wi pu n ls) vsR (qapN ls n 1 (qapC wi pu n ls)) vxR (qapC wi pu n ls) xsR (qapN ls n 2 (qapC wi pu n ls)) ∧ Below w.heap.size w w' :=
  (sQapOf_any wi pu hwf a n c hn ls hz w hA).mono fun _ _ h => qap_end h


end Go.Proofs.Ytjlijflfepffiaa

/-
  What is mixed, in one form.
  (-DROP-: what the seat lacks is left out.)
-/
namespace Go.Proofs.Ytjlijflfepffiaa
open Go.RowKit

theorem iMixV (a : Option Addr) (n c : Nat) (ls : List (List Int)) (hn : n ≤ 1048576) (hz : ∀ j, (ls.getD j []).length ≤ 1048576) (v : Value) (m : List Int) (hm : m.length ≤ 1048576) (w : World) (hA : n ≤ c ∧ NAt 1 w w.heap.size (.slice a n c) n ls) (hu : ZAt w w.heap.size v m) :
    Calls Try.prog 26 #[.slice a n c, v] w fun e w' => ∃ x, e = .returned x ∧ ZOwn w.heap.size w'.heap.size w' x (pMix ls m) ∧ Below w.heap.size w w' := by
  have hl : ls.length = n := by have := hA.2.1; omega
  subst hl
  exact iMixed_any a c v ls m hn hz hm hA.1 w hA.2 hu
theorem sMixV (a : Option Addr) (n c : Nat) (ls : List (List Int)) (hn : n ≤ 1048576) (hz : ∀ j, (ls.getD j []).length ≤ 1048576) (v : Value) (m : List Int) (hm : m.length ≤ 1048576) (w : World) (hA : n ≤ c ∧ NAt 1 w w.heap.size (.slice a n c) n ls) (hu : ZAt w w.heap.size v m) :
    Calls Try.prog 27 #[.slice a n c, v] w fun e w' => ∃ x, e = .returned x ∧ ZOwn w.heap.size w'.heap.size w' x (pMix ls m) ∧ Below w.heap.size w w' := by
  have hl : ls.length = n := by have := hA.2.1; omega
  subst hl
  exact sMix_any (.slice a ls.length c) v ls m hn hz hm w hA.2 hu
theorem pMix_len (L : List (List Int)) (m : List Int) (hz : ∀ j, (L.getD j []).length ≤ 1048576) : (pMix L m).length ≤ 1048576 := mixN_len L m _ _ fun i _ => hz i


end Go.Proofs.Ytjlijflfepffiaa

/-
  The draws of systems for what becomes of them.
  (-DROP-: what the seat lacks is left out.)
-/
namespace Go.Proofs.Ytjlijflfepffiaa
open Go.RowKit

/-- What the draw leaves. -/
def QuoEnd (w : World) (e : Ending) (w' : World) : Prop := ∃ (wi pu : Int) (v u : Value) (n : Nat) (ls : List (List Int)) (m : List Int), e = .returned (.tuple #[sysV wi pu v, u]) ∧ (Lit.int .i64 wi).wf = true ∧ n ≤ 16 ∧ (∀ j, (ls.getD j []).length ≤ 16) ∧ m.length ≤ 16 ∧ NAt 3 w' w'.heap.size v n ls ∧ ZAt w' w'.heap.size u m ∧ Below w.heap.size w w'

/-- What the draw of a system alone leaves. -/
def QapOfEnd (w : World) (e : Ending) (w' : World) : Prop := ∃ (wi pu : Int) (v : Value) (n : Nat) (ls : List (List Int)), e = .returned (sysV wi pu v) ∧ (Lit.int .i64 wi).wf = true ∧ n ≤ 16 ∧ (∀ j, (ls.getD j []).length ≤ 16) ∧ NAt 3 w' w'.heap.size v n ls ∧ Below w.heap.size w w'

set_option maxHeartbeats 1600000 in
set_option maxRecDepth 100000 in
theorem quotD_any (len cap : Nat) (a : Option Addr) (hm : len ≤ 1048576) (w : World) (hA : ArgAt w a len w.heap.size) :
    Calls Try.prog 21 #[.slice a len cap] w fun e w' => QuoEnd w e w' := by
  obtain ⟨W, hW, hb, hr⟩ := box1 w 26 #[.int .i64 0, .int .i64 0, .slice none 0 0]
  have HA : Hid (ArgAt W a len W.heap.size) := fun j hj => by
    obtain ⟨b, off, z, h1, h2, h3⟩ := (hA.on hb) j hj
    exact ⟨b, off, z, h1, Nat.lt_of_lt_of_le h2 hb.size, h3⟩
  have H0 : Hid (Below w.heap.size w W ∧ Blk W w.heap.size 26 #[.int .i64 0, .int .i64 0, .slice none 0 0]) := ⟨hb, hr⟩
  clear hA hb hr
  go_enter Try.func21, Try.ntmps21
  go_wp2_with fail
  clear hW
  refine (new_any len cap a hm _ HA.out).mono ?_
  rintro e w1 ⟨rfl, hC, hA1, hb1⟩
  have HC : Hid (CurAt w1 W.heap.size a len cap) := hC
  have HA1 : Hid (ArgAt w1 a len W.heap.size) := hA1
  have H1 : Hid (Below w.heap.size w w1 ∧ Blk w1 w.heap.size 26 #[.int .i64 0, .int .i64 0, .slice none 0 0]) := ⟨H0.out.1.trans (hb1.mono H0.out.1.size), H0.out.2.on hb1 H0.out.2.lt⟩
  have hs0 : w.heap.size < W.heap.size := H0.out.2.lt
  have hs1 : W.heap.size < w1.heap.size := hC.lt
  clear hC hA1 hb1 H0 HA
  go_wp2_with fail
  refine (sAny_any W.heap.size len cap a hm _ HC.out HA1.out).mono ?_
  rintro e w2 ⟨wi, pu, v, u, n, ls, m, rfl, hwf, hn, hls, hml, hN, hE⟩
  obtain ⟨va, vc, rfl⟩ : ∃ va vc, v = .slice va n vc := by obtain ⟨⟨_, va, vc, h, _⟩, _⟩ := hN w2 (fun _ _ _ => rfl); exact ⟨va, vc, h⟩
  have HN : Hid (∀ V, Same w1.heap.size w2.heap.size w2 V → NAt 3 V w2.heap.size (.slice va n vc) n ls ∧ ZAt V w2.heap.size u m) := hN
  have HLS : Hid (∀ j, (ls.getD j []).length ≤ 16) := hls
  have HWF : Hid ((Lit.int .i64 wi).wf = true) := hwf
  have hres : Blk w2 w.heap.size 26 #[.int .i64 0, .int .i64 0, .slice none 0 0] := H1.out.2.grown hE.grown (by omega)
  have hB2 : Below w.heap.size w w2 := H1.out.1.trans ⟨hE.grown.os, hE.grown.tape, hE.grown.output, hE.grown.size, fun k hk => hE.grown.block k (by omega) (fun e => by have := Option.some.inj e; omega)⟩
  clear hE hN hls hwf HC HA1 H1
  unfold sysV
  go_wp2_with (refine store_blkS (cs' := #[.int .i64 wi, .int .i64 pu, .slice va n vc]) rfl rfl rfl rfl rfl hres infoSy rfl (onesSy _ _ _ _ _) ?_; intro V8 h8 hheap hoth hbel; have hb8 := hbel _ _ (Nat.le_refl _) hB2; have hb9 := hbel 0 w2 (Nat.zero_le _) (Below.refl _ _); clear hoth hbel)
  have hs8 : w2.heap.size ≤ V8.heap.size := hb9.size
  have HX := HN.out V8 (fun k h1 h2 => hheap k (by omega))
  refine bodyPost_ret_by (result_Btmp rfl rfl rfl h8 Try.underlying26 infoSy) rfl ⟨wi, pu, _, u, n, ls, m, rfl, HWF.out, hn, HLS.out, hml, HX.1.wide hs8, HX.2.wide hs8, hb8⟩

set_option maxHeartbeats 1600000 in
set_option maxRecDepth 100000 in
theorem qapD_any (len cap : Nat) (a : Option Addr) (hm : len ≤ 1048576) (w : World) (hA : ArgAt w a len w.heap.size) :
    Calls Try.prog 17 #[.slice a len cap] w fun e w' => QapOfEnd w e w' := by
  obtain ⟨W, hW, hb, hr⟩ := box1 w 26 #[.int .i64 0, .int .i64 0, .slice none 0 0]
  have HA : Hid (ArgAt W a len W.heap.size) := fun j hj => by
    obtain ⟨b, off, z, h1, h2, h3⟩ := (hA.on hb) j hj
    exact ⟨b, off, z, h1, Nat.lt_of_lt_of_le h2 hb.size, h3⟩
  have H0 : Hid (Below w.heap.size w W ∧ Blk W w.heap.size 26 #[.int .i64 0, .int .i64 0, .slice none 0 0]) := ⟨hb, hr⟩
  clear hA hb hr
  go_enter Try.func17, Try.ntmps17
  go_wp2_with fail
  clear hW
  refine (new_any len cap a hm _ HA.out).mono ?_
  rintro e w1 ⟨rfl, hC, hA1, hb1⟩
  have HC : Hid (CurAt w1 W.heap.size a len cap) := hC
  have HA1 : Hid (ArgAt w1 a len W.heap.size) := hA1
  have H1 : Hid (Below w.heap.size w w1 ∧ Blk w1 w.heap.size 26 #[.int .i64 0, .int .i64 0, .slice none 0 0]) := ⟨H0.out.1.trans (hb1.mono H0.out.1.size), H0.out.2.on hb1 H0.out.2.lt⟩
  have hs0 : w.heap.size < W.heap.size := H0.out.2.lt
  have hs1 : W.heap.size < w1.heap.size := hC.lt
  clear hC hA1 hb1 H0 HA
  go_wp2_with fail
  refine (sAny_any W.heap.size len cap a hm _ HC.out HA1.out).mono ?_
  rintro e w2 ⟨wi, pu, v, u, n, ls, m, rfl, hwf, hn, hls, hml, hN, hE⟩
  obtain ⟨va, vc, rfl⟩ : ∃ va vc, v = .slice va n vc := by obtain ⟨⟨_, va, vc, h, _⟩, _⟩ := hN w2 (fun _ _ _ => rfl); exact ⟨va, vc, h⟩
  have HN : Hid (∀ V, Same w1.heap.size w2.heap.size w2 V → NAt 3 V w2.heap.size (.slice va n vc) n ls ∧ ZAt V w2.heap.size u m) := hN
  have HLS : Hid (∀ j, (ls.getD j []).length ≤ 16) := hls
  have HWF : Hid ((Lit.int .i64 wi).wf = true) := hwf
  have hres : Blk w2 w.heap.size 26 #[.int .i64 0, .int .i64 0, .slice none 0 0] := H1.out.2.grown hE.grown (by omega)
  have hB2 : Below w.heap.size w w2 := H1.out.1.trans ⟨hE.grown.os, hE.grown.tape, hE.grown.output, hE.grown.size, fun k hk => hE.grown.block k (by omega) (fun e => by have := Option.some.inj e; omega)⟩
  clear hE hN hls hwf HC HA1 H1
  unfold sysV
  obtain ⟨V0, hV0, hbv0, hsv0⟩ := box1 w2 26 #[.int .i64 0, .int .i64 0, .slice none 0 0]
  have hresV := hres.on hbv0 hres.lt
  go_wp2_with (first | (refine store_blkS (cs' := #[.int .i64 wi, .int .i64 pu, .slice va n vc]) rfl rfl rfl rfl rfl hsv0 infoSy rfl (onesSy _ _ _ _ _) ?_; intro V7 h7 hheap7 hoth7 hbel7; have hb7 := hbel7 _ _ (Nat.le_refl _) hbv0; have hres7 := hoth7 _ _ _ (by have := hres.lt; omega) hresV; clear hoth7 hbel7) | (refine load_blk rfl rfl rfl h7 Try.underlying26 infoSy ?_) | (refine store_blkS (cs' := #[.int .i64 wi, .int .i64 pu, .slice va n vc]) rfl rfl rfl rfl rfl hres7 infoSy rfl (onesSy _ _ _ _ _) ?_; intro V8 h8 hheap hoth hbel; have hb8 := hbel _ _ (Nat.le_refl _) (hB2.trans (hb7.mono hB2.size)); have hb9 := hbel 0 V7 (Nat.zero_le _) (Below.refl _ _); clear hoth hbel))
  have hs7 : w2.heap.size ≤ V7.heap.size := hb7.size
  have hs8 : V7.heap.size ≤ V8.heap.size := hb9.size
  have HX := HN.out V8 (fun k h1 h2 => (hheap k (by omega)).trans (hb7.block k h2))
  refine bodyPost_ret_by (result_blk rfl rfl h8 Try.underlying26 infoSy) rfl ⟨wi, pu, _, n, ls, rfl, HWF.out, hn, HLS.out, HX.1.wide (by omega), hb8⟩

end Go.Proofs.Ytjlijflfepffiaa
