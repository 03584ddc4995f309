/-
  Texts of one's own, joined.
-/
import Derived.Test.YtjlijflfepffiaaPolyI6
import Derived.Test.YtjlijflfepffiaaJoined9

/-
  The walk of the program's division, whole.
  (-DROP-: what the seat lacks is left out.)
-/
namespace Go.Proofs.Ytjlijflfepffiaa
open Go.RowKit

theorem lit0 (w : World) : RowZs w.heap.size (w.alloc (.cells #[] 3)) (.slice (some ⟨w.heap.size, 0, none⟩) 0 0) [] := own_lit w [] (by simp)
theorem lit0n (w : World) (g : Nat) (hg : g = w.heap.size) : RowZs g (w.alloc (.cells #[] 3)) (.slice (some ⟨g, 0, none⟩) 0 0) [] := by
  subst hg
  exact lit0 w

set_option maxHeartbeats 3200000 in
set_option maxRecDepth 100000 in
theorem iDiv_any (v u : Value) (l m : List Int) (hl : l.length ≤ 1048576) (hm : m.length ≤ 1048576) (w : World) (h : ZAt w w.heap.size v l) (h2 : ZAt w w.heap.size u m) : Calls Try.prog 83 #[v, u] w fun e w' => ∃ q r, e = .returned (.tuple #[q, r]) ∧ ZOwn w.heap.size w'.heap.size w' q (pQuo l m) ∧ ZOwn w.heap.size w'.heap.size w' r (pRem l m) ∧ (∀ g, q.ownBlock = some g → r.ownBlock ≠ some g) ∧ Below w.heap.size w w' := by
  have HA : Hid (ZAt w w.heap.size v l) := h
  have HB : Hid (ZAt w w.heap.size u m) := h2
  obtain ⟨a, cp, rfl, hA⟩ := h
  obtain ⟨b, cq, rfl, hB⟩ := h2
  clear hA hB
  by_cases hbig : 64 < l.length ∨ 64 < m.length
  · have HE : Hid (pQuo l m = []) := by show _ = _; unfold pQuo; rw [if_pos (by omega)]
    have HE2 : Hid (pRem l m = []) := by show _ = _; unfold pRem; rw [if_pos hbig]
    have HF : Hid (ZOwn w.heap.size ((w.alloc (.cells #[] 3)).alloc (.cells #[] 3)).heap.size ((w.alloc (.cells #[] 3)).alloc (.cells #[] 3)) (.slice (some ⟨w.heap.size, 0, none⟩) 0 0) [] ∧ ZOwn w.heap.size ((w.alloc (.cells #[] 3)).alloc (.cells #[] 3)).heap.size ((w.alloc (.cells #[] 3)).alloc (.cells #[] 3)) (.slice (some ⟨w.heap.size + 1, 0, none⟩) 0 0) [] ∧ Below w.heap.size w ((w.alloc (.cells #[] 3)).alloc (.cells #[] 3))) := by
      refine ⟨ZOwn.of (World.ownsRow.alloc (lit0 w) _), (ZOwn.of (lit0n (w.alloc (.cells #[] 3)) (w.heap.size + 1) (by simp))).wide (by omega) (Nat.le_refl _), ((Below.refl _ _).alloc (Nat.le_refl _) _).alloc (by simp) _⟩
    generalize hla : l.length = la at *
    generalize hlb : m.length = lb at *
    clear hla hlb HA HB
    by_cases h1 : 64 < la
    · have h1' : (la : Int) > 64 := by omega
      clear hbig
      go_enter Try.func83, Try.ntmps83
      go_wp2
      go_ret2
      exact ⟨_, _, rfl, by rw [HE.out]; exact HF.out.1, by rw [HE2.out]; exact HF.out.2.1, fun g h1 h2 => by have e1 : w.heap.size = g := Option.some.inj h1; have e2 : w.heap.size + 1 = g := Option.some.inj h2; omega, HF.out.2.2⟩
    · have h1' : ¬ (la : Int) > 64 := by omega
      have h2' : (lb : Int) > 64 := by omega
      clear hbig
      go_enter Try.func83, Try.ntmps83
      go_wp2
      go_ret2
      exact ⟨_, _, rfl, by rw [HE.out]; exact HF.out.1, by rw [HE2.out]; exact HF.out.2.1, fun g h1 h2 => by have e1 : w.heap.size = g := Option.some.inj h1; have e2 : w.heap.size + 1 = g := Option.some.inj h2; omega, HF.out.2.2⟩
  · have C1 : Hid (∀ W : World, W = w → Calls Try.prog 104 #[.slice a l.length cp] W fun e w' => ∃ u, e = .returned u ∧ ZOwn W.heap.size w'.heap.size w' u (pTrim l) ∧ Below W.heap.size W w') := fun W e => by subst e; exact iTrim_any _ l hl _ HA.out
    have C2 : Hid (∀ W : World, Below w.heap.size w W → Calls Try.prog 104 #[.slice b m.length cq] W fun e w' => ∃ u, e = .returned u ∧ ZOwn W.heap.size w'.heap.size w' u (pTrim m) ∧ Below W.heap.size W w') := fun W hW => iTrim_any _ m hm _ ((HB.out.on hW).wide hW.size)
    have hl64 : ¬ (l.length : Int) > 64 := by omega
    have hm64 : ¬ (m.length : Int) > 64 := by omega
    have hpl := pTrim_len l
    have hpm := pTrim_len m
    have hll : l.length ≤ 64 ∧ m.length ≤ 64 := by omega
    have HE : Hid (¬ (64 < l.length ∨ 64 < m.length)) := hbig
    clear hbig
    generalize hla : l.length = la at C1 hl64 hpl hll ⊢
    generalize hlb : m.length = lb at C2 hm64 hpm hll ⊢
    clear hla hlb HA HB hl hm
    go_enter Try.func83, Try.ntmps83
    go_wp2_with fail
    go_at_call 104
    refine (C1.out _ rfl).mono ?_
    rintro e w1 ⟨v1, rfl, hv1, hb1⟩
    have HV1 : Hid (ZOwn w.heap.size w1.heap.size w1 v1 (pTrim l)) := hv1
    have HB1 : Hid (Below w.heap.size w w1) := hb1
    clear hv1 hb1
    go_wp2_with fail
    go_at_call 104
    refine (C2.out _ HB1.out).mono ?_
    rintro e w2 ⟨v2, rfl, hv2, hb2⟩
    have HV2 : Hid (ZOwn w1.heap.size w2.heap.size w2 v2 (pTrim m)) := hv2
    have HB2 : Hid (Below w1.heap.size w1 w2) := hb2
    clear hv2 hb2
    have HW : Hid (ZOwn w.heap.size w1.heap.size w2 v1 (pTrim l)) := HV1.out.on HB2.out (Nat.le_refl _)
    obtain ⟨a1, c1, hv⟩ := row_form HV1.out.1
    subst hv
    obtain ⟨a2, c2, hv⟩ := row_form HV2.out.1
    subst hv
    by_cases hs : (pTrim m).length = 0 ∨ (pTrim l).length < (pTrim m).length
    · have HQ : Hid (pQuo l m = []) := by show _ = _; unfold pQuo; rw [if_pos (Or.inr (Or.inr hs))]
      have HR : Hid (pRem l m = pTrim l) := by show _ = _; unfold pRem; rw [if_neg HE.out, if_pos hs]
      have HN : Hid (ZOwn w.heap.size (w2.alloc (.cells #[] 3)).heap.size (w2.alloc (.cells #[] 3)) (.slice (some ⟨w2.heap.size, 0, none⟩) 0 0) [] ∧ ZOwn w.heap.size (w2.alloc (.cells #[] 3)).heap.size (w2.alloc (.cells #[] 3)) (.slice a1 (pTrim l).length c1) (pTrim l) ∧ (∀ g, (Value.slice (some ⟨w2.heap.size, 0, none⟩) 0 0).ownBlock = some g → (Value.slice a1 (pTrim l).length c1).ownBlock ≠ some g) ∧ Below w.heap.size w (w2.alloc (.cells #[] 3))) := by
        have s1 := HB1.out.size
        have s2 := HB2.out.size
        have hbb : Below w2.heap.size w2 (w2.alloc (.cells #[] 3)) := (Below.refl _ _).alloc (Nat.le_refl _) _
        refine ⟨(ZOwn.of (lit0 w2)).wide (by omega) (Nat.le_refl _), (HW.out.on hbb s2).wide (Nat.le_refl _) (by simp; omega), fun g hq hr => ?_, (HB1.out.trans (HB2.out.mono s1)).trans (hbb.mono (by omega))⟩
        have e1 : w2.heap.size = g := Option.some.inj hq
        have := HV1.out.2 g hr
        omega
      by_cases hz : (pTrim m).length = 0
      · generalize (pTrim l).length = n1 at *
        rw [hz] at *
        clear hs
        go_wp2
        go_ret2
        exact ⟨_, _, rfl, by rw [HQ.out]; exact HN.out.1, by rw [HR.out]; exact HN.out.2.1, HN.out.2.2.1, HN.out.2.2.2⟩
      · have hz' : (((pTrim m).length : Int) == 0) = false := by rw [beq_eq_false_iff_ne]; omega
        have hz2 : ((pTrim m).length : Int) > ((pTrim l).length : Int) := by omega
        generalize (pTrim l).length = n1 at *
        generalize (pTrim m).length = n2 at *
        clear hs hz
        go_wp2
        go_ret2
        exact ⟨_, _, rfl, by rw [HQ.out]; exact HN.out.1, by rw [HR.out]; exact HN.out.2.1, HN.out.2.2.1, HN.out.2.2.2⟩
    · have HQ : Hid (pQuo l m = (dv (pTrim m) ((pTrim m).length - 1) (dvC (pTrim m)) (dvN (pTrim l) (pTrim m)) (pTrim l)).1) := by show _ = _; unfold pQuo; rw [if_neg (by have := HE.out; omega)]
      have HR : Hid (pRem l m = trimZ (dv (pTrim m) ((pTrim m).length - 1) (dvC (pTrim m)) (dvN (pTrim l) (pTrim m)) (pTrim l)).2) := by show _ = _; unfold pRem; rw [if_neg HE.out, if_neg hs]
      obtain ⟨g, hg⟩ : ∃ g, (Value.slice a1 (pTrim l).length c1).ownBlock = some g := by
        obtain ⟨g, c', hve, _⟩ := HW.out.1.cellZ (j := 0) (by omega)
        exact ⟨g, by rw [hve]; rfl⟩
      have hg1 : w.heap.size ≤ g ∧ g < w1.heap.size := HW.out.in g hg
      have CD : Hid (Calls Try.prog 105 #[.slice a1 (pTrim l).length c1, .slice a2 (pTrim m).length c2] w2 fun e w' => ∃ q r, e = .returned (.tuple #[q, r]) ∧ RowZs w2.heap.size w' q (pQuo l m) ∧ RowZs w.heap.size w' r (pRem l m) ∧ q.ownBlock = some w2.heap.size ∧ (∀ k, r.ownBlock = some k → k = g) ∧ Kps (fun x => x = g) w2 w') := by
        rw [HQ.out, HR.out]
        refine dip_any _ _ (pTrim l) (pTrim m) w.heap.size w1.heap.size g w2 HW.out.1 HV2.out.1 hg (fun e => ?_) (by omega) (by omega) (by omega)
        have := HV2.out.in g e
        omega
      have hz' : (((pTrim m).length : Int) == 0) = false := by rw [beq_eq_false_iff_ne]; omega
      have hz2 : ¬ ((pTrim m).length : Int) > ((pTrim l).length : Int) := by omega
      clear hs
      generalize (pTrim l).length = n1 at *
      generalize (pTrim m).length = n2 at *
      go_wp2_with (go_at_call 105; refine CD.out.mono ?_; rintro e w3 ⟨q, r, rfl, hq, hr, hqo, hro, hk3⟩)
      go_ret2
      have s1 := HB1.out.size
      have s2 := HB2.out.size
      refine ⟨q, r, rfl, (ZOwn.of hq).wide (by omega) (Nat.le_refl _), ZOwn.of hr, fun k h1 h2 => ?_, hk3.bel (HB1.out.trans (HB2.out.mono s1)) (by omega) (fun k hk => by omega)⟩
      rw [hqo] at h1
      have e1 := Option.some.inj h1
      have e2 := hro k h2
      omega

end Go.Proofs.Ytjlijflfepffiaa

/-
  A region that draws its order, where two operations are ready at once: each way, to one end.
-/
namespace Go.Proofs.Ytjlijflfepffiaa
open Go.RowKit

section
variable {P : Program} {ops : Array Oper} {S : World → Prop} {Q : Exit → Act → World → Prop} {R : Act → World → Prop}

/-- An operation with a value that is told. -/
theorem ord_told {k : Nat} {r : List (Nat × Bool)} {a : Act} {w : World} {o : Oper} (v : Value) (ho : ops[k]? = some o) (hy : YieldsIf P ops S o v a)
    (h : ∀ K : Act → Prop, (∀ a, wpOrd P ops Q S R r a w → K a) → K (a.put o.dst v)) : wpOrd P ops Q S R ((k, false) :: r) a w :=
  ⟨o, v, ho, hy, h _ (fun _ h => h)⟩

/-- Two chains, i then i', and j: in whatever order, to one end. -/
theorem anyH_fork3 {n i i' j : Nat} {L0 : Array Bool} {a : Act} {w : World} {F : Nat → Nat → Act} (G : Nat → Nat → World → Prop) (L3 : Array Bool)
    (hB : (Region.noSelect ops && decide (Region.ready .any ops L0 = [i, j]) && decide (Region.ready .any ops (L0.setIfInBounds i true) = [i', j]) && decide (ordTo ops [(j, true)] ((L0.setIfInBounds i true).setIfInBounds i' true) = some L3) && decide (ordTo ops [(i', true)] ((L0.setIfInBounds i true).setIfInBounds j true) = some L3) && decide (ordTo ops [(i, true), (i', true)] (L0.setIfInBounds j true) = some L3)) = true)
    (h1 : wpOrd P ops Q S (fun a' w' => S w' ∧ wpOrd P ops Q S (fun a' w' => ∃ g1 g2, a' = F g1 g2 ∧ G g1 g2 w') [(i', true), (j, true)] a' w' ∧ wpOrd P ops Q S (fun a' w' => ∃ g1 g2, a' = F g1 g2 ∧ G g1 g2 w') [(j, true), (i', true)] a' w') [(i, true)] a w)
    (h2 : wpOrd P ops Q S (fun a' w' => ∃ g1 g2, a' = F g1 g2 ∧ G g1 g2 w') [(j, true), (i, true), (i', true)] a w)
    (hK : ∀ g1 g2 w', G g1 g2 w' → wpAnyH P .any ops (NoPanic Q) S n L3 (F g1 g2) w') : wpAnyH P .any ops (NoPanic Q) S (n + 3) L0 a w := by
  simp only [Bool.and_eq_true, decide_eq_true_eq] at hB
  obtain ⟨⟨⟨⟨⟨hs, h0⟩, hi⟩, hij⟩, hji⟩, hj⟩ := hB
  have up : ∀ (order : List (Nat × Bool)) (a : Act) (w : World), wpOrd P ops Q S (fun a' w' => ∃ g1 g2, a' = F g1 g2 ∧ G g1 g2 w') order a w → wpOrd P ops Q S (fun a w => wpAnyH P .any ops (NoPanic Q) S n L3 a w) order a w := by
    intro order
    induction order with
    | nil =>
      rintro a w ⟨g1, g2, rfl, hG⟩
      exact hK g1 g2 w hG
    | cons x r ih =>
      obtain ⟨k, b⟩ := x
      cases b
      · rintro a w ⟨o, v, ho, hy, hr⟩
        exact ⟨o, v, ho, hy, ih _ _ hr⟩
      · intro a w h
        exact wpOp_mono (fun a' w' ⟨h1, h2⟩ => ⟨h1, ih _ _ h2⟩) h
  refine wpAnyH_all h0 (by simp) fun k hk => ?_
  simp only [List.mem_cons, List.not_mem_nil, or_false] at hk
  rcases hk with rfl | rfl
  · refine wpOp_mono (fun a' w' ⟨hS, _, ha, hb⟩ => ⟨hS, ?_⟩) h1
    refine wpAnyH_all hi (by simp) fun k' hk' => ?_
    simp only [List.mem_cons, List.not_mem_nil, or_false] at hk'
    rcases hk' with rfl | rfl
    · exact wpOp_mono (fun a2 w2 ⟨hS2, h⟩ => ⟨hS2, anyH_of_to hs [(_, true)] n _ _ a2 w2 hij hS2 (up _ _ _ h)⟩) ha
    · exact wpOp_mono (fun a2 w2 ⟨hS2, h⟩ => ⟨hS2, anyH_of_to hs [(_, true)] n _ _ a2 w2 hji hS2 (up _ _ _ h)⟩) hb
  · exact wpOp_mono (fun a2 w2 ⟨hS2, h⟩ => ⟨hS2, anyH_of_to hs [(_, true), (_, true)] n _ _ a2 w2 hj hS2 (up _ _ _ h)⟩) h2

end
end Go.Proofs.Ytjlijflfepffiaa

/-
  A store into a struct's block in a region that draws its order: all other blocks are told. Two chains beside one another, with three values at their end.
-/
namespace Go.Proofs.Ytjlijflfepffiaa
open Go.RowKit

section
variable {P : Program} {ops : Array Oper} {S : World → Prop} {Q : Exit → Act → World → Prop} {R : Act → World → Prop}

theorem ord_storeS {k : Nat} {r : List (Nat × Bool)} {a : Act} {w : World} {o : Oper} (ho : ops[k]? = some o) (hw : Region.wanted o (yielded ops a.tmps) = true) (hd : o.dst = none) {t : TypeId} {p v : Operand} (hop : o.op = Op.store t p v)
    {g : Nat} {t' : TypeId} {cs cs' : Array Value} (hp : a.eval p = .pointer (some ⟨g, 0, none⟩)) (hv : a.eval v = .agg cs') (h : Blk w g t' cs) (hi : (P.info? t).map (·.size) = some cs'.size) (hz : cs.size = cs'.size) (h1 : cs'.all (·.oneCell') = true)
    (K : ∀ w', Blk w' g t' cs' → (∀ k, k ≠ g → w'.heap[k]? = w.heap[k]?) → (∀ g' t'' cs'', g ≠ g' → Blk w g' t'' cs'' → Blk w' g' t'' cs'') → (∀ B w0, B ≤ g → Below B w0 w → Below B w0 w') → S w' ∧ wpOrd P ops Q S R r a w') : wpOrd P ops Q S R ((k, true) :: r) a w := by
  show wpOp P ops (NoPanic Q) k _ a w
  unfold wpOp
  simp only [ho]
  rw [if_pos hw]
  refine .inl ?_
  have hrun : (Instr.storeAt t (.pointer (some ⟨g, 0, none⟩)) (.agg cs')).run P w = .ok () (w.setRow g cs') := by
    simp only [Instr.storeAt, Instr.sureAddr, Sem.run_bind, Sem.run_pure, Result.andThen]
    exact h.store hi hz h1
  unfold Oper.wp
  simp [execOp, hop, hp, hv, hrun, Result.andThen]
  simp only [Oper.upon]
  rw [show a.put o.dst undef = a by rw [hd]; rfl]
  exact K _ (h.row cs') (fun k hk => by simp only [World.setRow]; rw [Array.getElem?_modify, if_neg (fun e => hk e.symm)]) (fun g' t'' cs'' hne h' => h'.rowOther hne _) (fun _ _ hB hb => below_setRow hb hB _)

/-- Two chains, i then i', and j (which is listed ahead of both): in whatever order, to one end. -/
theorem anyH_fork3v {n i i' j : Nat} {L0 : Array Bool} {a : Act} {w : World} {F : Value → Value → Value → Act} (G : Value → Value → Value → World → Prop) (L3 : Array Bool)
    (hB : (Region.noSelect ops && decide (Region.ready .any ops L0 = [j, i]) && decide (Region.ready .any ops (L0.setIfInBounds i true) = [j, i']) && decide (ordTo ops [(j, true)] ((L0.setIfInBounds i true).setIfInBounds i' true) = some L3) && decide (ordTo ops [(i', true)] ((L0.setIfInBounds i true).setIfInBounds j true) = some L3) && decide (ordTo ops [(i, true), (i', true)] (L0.setIfInBounds j true) = some L3)) = true)
    (h1 : wpOrd P ops Q S (fun a' w' => S w' ∧ wpOrd P ops Q S (fun a' w' => ∃ x y z, a' = F x y z ∧ G x y z w') [(i', true), (j, true)] a' w' ∧ wpOrd P ops Q S (fun a' w' => ∃ x y z, a' = F x y z ∧ G x y z w') [(j, true), (i', true)] a' w') [(i, true)] a w)
    (h2 : wpOrd P ops Q S (fun a' w' => ∃ x y z, a' = F x y z ∧ G x y z w') [(j, true), (i, true), (i', true)] a w)
    (hK : ∀ x y z w', G x y z w' → wpAnyH P .any ops (NoPanic Q) S n L3 (F x y z) w') : wpAnyH P .any ops (NoPanic Q) S (n + 3) L0 a w := by
  simp only [Bool.and_eq_true, decide_eq_true_eq] at hB
  obtain ⟨⟨⟨⟨⟨hs, h0⟩, hi⟩, hij⟩, hji⟩, hj⟩ := hB
  have up : ∀ (order : List (Nat × Bool)) (a : Act) (w : World), wpOrd P ops Q S (fun a' w' => ∃ x y z, a' = F x y z ∧ G x y z w') order a w → wpOrd P ops Q S (fun a w => wpAnyH P .any ops (NoPanic Q) S n L3 a w) order a w := by
    intro order
    induction order with
    | nil =>
      rintro a w ⟨x, y, z, rfl, hG⟩
      exact hK x y z w hG
    | cons x r ih =>
      obtain ⟨k, b⟩ := x
      cases b
      · rintro a w ⟨o, v, ho, hy, hr⟩
        exact ⟨o, v, ho, hy, ih _ _ hr⟩
      · intro a w h
        exact wpOp_mono (fun a' w' ⟨h1, h2⟩ => ⟨h1, ih _ _ h2⟩) h
  refine wpAnyH_all h0 (by simp) fun k hk => ?_
  simp only [List.mem_cons, List.not_mem_nil, or_false] at hk
  rcases hk with rfl | rfl
  · exact wpOp_mono (fun a2 w2 ⟨hS2, h⟩ => ⟨hS2, anyH_of_to hs [(_, true), (_, true)] n _ _ a2 w2 hj hS2 (up _ _ _ h)⟩) h2
  · refine wpOp_mono (fun a' w' ⟨hS, _, ha, hb⟩ => ⟨hS, ?_⟩) h1
    refine wpAnyH_all hi (by simp) fun k' hk' => ?_
    simp only [List.mem_cons, List.not_mem_nil, or_false] at hk'
    rcases hk' with rfl | rfl
    · exact wpOp_mono (fun a2 w2 ⟨hS2, h⟩ => ⟨hS2, anyH_of_to hs [(_, true)] n _ _ a2 w2 hji hS2 (up _ _ _ h)⟩) hb
    · exact wpOp_mono (fun a2 w2 ⟨hS2, h⟩ => ⟨hS2, anyH_of_to hs [(_, true)] n _ _ a2 w2 hij hS2 (up _ _ _ h)⟩) ha

end
end Go.Proofs.Ytjlijflfepffiaa
