/-
  The same law where the last operation ahead of the tail makes a block: it may come up at any time.
-/
import Derived.Test.YtengnjffajimdaaCls
import Derived.Below
import Derived.Deep.WholeRow
namespace Go.Proofs.Ytengnjffajimdaa
open Go.RowKit

/-- Block g holds these cells. -/
def Blk (w : World) (g : Nat) (t : TypeId) (cs : Array Value) : Prop := w.heap[g]? = some (.cells cs t (0, 0))

section
variable {P : Program} {ops : Array Oper}

/-- A class of worlds that lie behind W, kept by whatever makes blocks of its own alone. -/
def Stable (W : World) (D : World → Prop) : Prop := (∀ w, D w → Below W.heap.size W w) ∧ ∀ w w', D w → Below w.heap.size w w' → D w'

/-- The walk in the order of the text: operations that leave the world alone, calls that make blocks of their own alone. -/
def wpBel (P : Program) (W : World) (R : Act → Prop) : List Oper → Act → Prop
  | [], a => R a
  | o :: rest, a => o.guard = none ∧ ∃ v, ((∀ w, Below W.heap.size W w → (execOp a.eval o).run P w = .ok (.value v) w) ∨
      ∃ f args, (∀ w, (execOp a.eval o).run P w = .ok (.enter f args) w) ∧ ∀ w, Below W.heap.size W w → Calls P f args w fun e w' => e = .returned v ∧ Below w.heap.size w w') ∧ wpBel P W R rest (a.put o.dst v)

theorem bel_nil {W : World} {R : Act → Prop} {a : Act} (h : R a) : wpBel P W R [] a := h
theorem bel_step {W : World} {R : Act → Prop} {a : Act} {o : Oper} {rest : List Oper} (hg : o.guard = none)
    (h : ∀ K : Act → Prop, (∀ a, wpBel P W R rest a → K a) → ∃ v, (∀ w, Below W.heap.size W w → (execOp a.eval o).run P w = .ok (.value v) w) ∧ K (a.put o.dst v)) : wpBel P W R (o :: rest) a := by
  obtain ⟨v, h1, h2⟩ := h _ (fun _ h => h)
  exact ⟨hg, v, .inl h1, h2⟩
theorem bel_call {W : World} {R : Act → Prop} {a : Act} {o : Oper} {rest : List Oper} (hg : o.guard = none)
    (h : ∀ K : Act → Prop, (∀ a, wpBel P W R rest a → K a) → ∃ f args v, (∀ w, (execOp a.eval o).run P w = .ok (.enter f args) w) ∧ (∀ w, Below W.heap.size W w → Calls P f args w fun e w' => e = .returned v ∧ Below w.heap.size w w') ∧ K (a.put o.dst v)) : wpBel P W R (o :: rest) a := by
  obtain ⟨f, args, v, h1, h2, h3⟩ := h _ (fun _ h => h)
  exact ⟨hg, v, .inr ⟨f, args, h1, h2⟩, h3⟩

/-- The frame, to be written out. -/
theorem frame_out {Q : Exit → Act → World → Prop} {l : List Oper} {a : Act} {w : World} (h : ∀ K : Act → Prop, (∀ a, wpList P ops Q l a w → K a) → K a) : wpList P ops Q l a w := h _ (fun _ h => h)

theorem putSt_vals {v1 v2 : Nat → Value} {a : Act} {S : Nat → Bool} : ∀ (m : Nat), (∀ j, j < m → S j = true → v1 j = v2 j) → putSt ops v1 a S m = putSt ops v2 a S m
  | 0, _ => rfl
  | m + 1, h => by
    simp only [putSt, putSt_vals m (fun j hj => h j (by omega))]
    split
    · rw [h m (by omega) (by assumption)]
    · rfl

theorem values_of_bel {W : World} {R : Act → Prop} {a : Act} (n : Nat) : ∀ (l : List Oper) (k : Nat) (v : Nat → Value), k + l.length = n → (∀ j, j < l.length → l[j]? = ops[k + j]?) →
    wpBel P W R l (putSt ops v a (fun _ => true) k) →
    ∃ v', (∀ j, j < k → v' j = v j) ∧ (∀ i o, k ≤ i → i < n → ops[i]? = some o → ∀ D, Stable W D → YieldsIn P ops D o (v' i) (putSt ops v' a (fun _ => true) i)) ∧ R (putSt ops v' a (fun _ => true) n)
  | [], k, v, hk, _, h => by
    have : k = n := by simpa using hk
    subst this
    exact ⟨v, fun _ _ => rfl, fun i o h1 h2 => by omega, h⟩
  | o :: l, k, v, hk, hl, h => by
    have h0 : ops[k]? = some o := by simpa using (hl 0 (by simp)).symm
    obtain ⟨hg, u, hy, hK⟩ := h
    have hds : dsOf ops k = o.dst := by simp [dsOf, h0]
    have e1 : putSt ops (fun j => if j = k then u else v j) a (fun _ => true) (k + 1) = (putSt ops v a (fun _ => true) k).put o.dst u := by
      simp only [putSt, if_true, hds]
      rw [putSt_vals (v2 := v) k (fun j hj _ => if_neg (by omega))]
    obtain ⟨v', h1, h2, h3⟩ := values_of_bel (a := a) n l (k + 1) (fun j => if j = k then u else v j) (by simp only [List.length_cons] at hk; omega)
      (fun j hj => by have := hl (j + 1) (by simp; omega); simpa [Nat.add_assoc, Nat.add_comm 1 j] using this) (by rw [e1]; exact hK)
    have hvk : v' k = u := by rw [h1 k (by omega)]; simp
    have hvj : ∀ j, j < k → v' j = v j := fun j hj => by rw [h1 j (by omega)]; exact if_neg (by omega)
    refine ⟨v', hvj, fun i oi hi hin hoi D hD => ?_, h3⟩
    by_cases e : i = k
    · subst e
      obtain rfl : oi = o := Option.some.inj (hoi.symm.trans h0)
      rw [hvk, putSt_vals (v2 := v) i (fun j hj _ => hvj j hj)]
      refine .inl ⟨by unfold Region.wanted; rw [hg], fun w hw => ?_⟩
      unfold Oper.quietAt
      rcases hy with hy | ⟨f, args, hy, hc⟩
      · rw [hy w (hD.1 w hw)]; exact ⟨rfl, rfl⟩
      · rw [hy w]; exact ⟨rfl, (hc w (hD.1 w hw)).mono fun e w' ⟨h1, h2⟩ => ⟨h1, hD.2 w w' hw h2⟩⟩
    · exact h2 i oi (by omega) hin hoi D hD

/-- The worlds behind W; once the block is made, those in which it lies there. -/
def Made (W : World) (t : TypeId) (cs : Array Value) (b : Bool) (g : Nat) (w : World) : Prop := Below W.heap.size W w ∧ (b = true → W.heap.size ≤ g ∧ Blk w g t cs)

theorem made_stable (W : World) (t : TypeId) (cs : Array Value) (b : Bool) (g : Nat) : Stable W (Made W t cs b g) :=
  ⟨fun _ h => h.1, fun _ _ h hb => ⟨h.1.trans (hb.mono h.1.size), fun e => ⟨(h.2 e).1, (hb.block g (Array.getElem?_eq_some_iff.1 (h.2 e).2).1).trans (h.2 e).2⟩⟩⟩

theorem any_of_alloc {W : World} {m : Nat} {t : TypeId} {cs : Array Value} {om : Oper} {Q : Exit → Act → World → Prop} {a : Act} {v : Nat → Value} (hB : Region.clsB ops (m + 1) = true) (hom : ops[m]? = some om) (hgm : om.guard = none)
    (hrun : ∀ (a : Act) (w : World), (execOp a.eval om).run P w = .ok (.value (.pointer (some ⟨w.heap.size, 0, none⟩))) (w.alloc (.cells cs t)))
    (hv : ∀ i o, i < m → ops[i]? = some o → ∀ D, Stable W D → YieldsIn P ops D o (v i) (putSt ops v a (fun _ => true) i))
    (hT : ∀ g w, Made W t cs true g w → wpAny P .any ops Q (ops.size - (m + 1)) (headDone ops (m + 1)) ((putSt ops v a (fun _ => true) m).put om.dst (.pointer (some ⟨g, 0, none⟩))) w) :
    ∀ (k : Nat) (listed : Array Bool) (g : Nat) (w : World), leftOf listed (m + 1) = k → HeadInv .any ops (m + 1) listed → Made W t cs (listed.getD m false) g w →
      wpAny P .any ops Q (k + (ops.size - (m + 1))) listed (putSt ops (fun i => if i = m then .pointer (some ⟨g, 0, none⟩) else v i) a (fun j => listed.getD j false) (m + 1)) w := by
  simp only [Region.clsB, Bool.and_eq_true, decide_eq_true_eq] at hB
  obtain ⟨⟨⟨⟨⟨⟨hsel, hn⟩, hs⟩, hc⟩, hh⟩, he⟩, hq⟩ := hB
  have hdm : dsOf ops m = om.dst := by simp [dsOf, hom]
  intro k
  induction k with
  | zero =>
    intro listed g w hl inv hw
    have hall := leftOf_zero hl
    have e : listed = headDone ops (m + 1) := by
      apply Array.ext
      · simp [headDone, inv.size]
      · intro i h1 h2
        have h3 : i < ops.size := by rw [← inv.size]; exact h1
        simp only [headDone, Array.getElem_ofFn]
        by_cases hi : i < m + 1
        · have := hall i hi
          simp [h1] at this
          simp [hi, this]
        · have := inv.tail i (by omega) h3
          simp [h1] at this
          simp [hi, this]
    have hmt := hall m (by omega)
    rw [hmt] at hw
    have e2 : putSt ops (fun i => if i = m then .pointer (some ⟨g, 0, none⟩) else v i) a (fun j => listed.getD j false) (m + 1) = (putSt ops v a (fun _ => true) m).put om.dst (.pointer (some ⟨g, 0, none⟩)) := by
      rw [putSt_congr (S := fun j => listed.getD j false) (T := fun _ => true) (m + 1) (fun j hj => hall j hj)]
      simp only [putSt, if_true, hdm]
      rw [putSt_vals (v2 := v) m (fun j hj _ => if_neg (by omega))]
    rw [Nat.zero_add, e2, e]
    exact hT g w hw
  | succ k ih =>
    intro listed g w hl inv hw
    obtain ⟨i0, hi0, hun0, hbelow⟩ := exists_left (listed := listed) (n := m + 1) (by omega)
    rw [show k + 1 + (ops.size - (m + 1)) = (k + (ops.size - (m + 1))) + 1 by omega]
    have hun0' : listed.getD i0 true = false := getD_in (by rw [inv.size]; omega) hun0
    have hready : i0 ∈ Region.ready .any ops listed := by
      obtain ⟨o0, ho0⟩ : ∃ o, ops[i0]? = some o := ⟨ops[i0]'(by omega), Array.getElem?_eq_getElem (by omega)⟩
      refine mem_ready.2 ⟨hun0', o0, ho0, fun e hea hb => ?_⟩
      have h1 := List.all_eq_true.1 he i0 (List.mem_range.2 hi0)
      simp only [ho0, Array.all_eq_true_iff_forall_mem] at h1
      have h2 := h1 e hea
      simp only [hb, Bool.not_true, Bool.false_or, decide_eq_true_eq] at h2
      exact hbelow _ h2
    refine ⟨fun h => (by rw [h] at hready; cases hready), fun i hi => ?_⟩
    have hin : i < m + 1 := by
      rcases Nat.lt_or_ge i (m + 1) with h | h
      · exact h
      · exact absurd hi (tail_waits hs hc hn inv _ i0 rfl hi0 hun0' i h)
    obtain ⟨huni, oi, hoi, hall⟩ := mem_ready.1 hi
    have huni' := getD_both huni
    have hisz : i < listed.size := by rw [inv.size]; omega
    have hsi := Region.noSelect_spec hsel
    have hd := headB_dst hh
    have hleft : leftOf (listed.setIfInBounds i true) (m + 1) = k := by have := leftOf_set hisz huni' (m + 1) hin; omega
    have hset : ∀ (u : Nat → Value), (putSt ops u a (fun j => listed.getD j false) (m + 1)).put (dsOf ops i) (u i) = putSt ops u a (fun j => (listed.setIfInBounds i true).getD j false) (m + 1) := by
      intro u
      have h1 := putSt_more (ops := ops) (v := u) (a := a) (S := fun j => listed.getD j false) (j := i) (n := m + 1) (fun k hk hne => hd i k hin hk hne) huni' (m + 1) hin (Nat.le_refl _)
      rw [← h1]
      refine putSt_congr (m + 1) fun j hj => ?_
      by_cases e : j = i
      · subst e; simp [more, hisz]
      · have h2 : (j == i) = false := by simp [e]
        rw [getD_set_ne false (fun x => e x.symm)]
        simp [more, h2]
    by_cases eim : i = m
    · subst eim
      obtain rfl : oi = om := Option.some.inj (hoi.symm.trans hom)
      unfold wpOp
      simp only [hom]
      rw [if_pos (by unfold Region.wanted; rw [hgm])]
      refine .inl ?_
      unfold Oper.wp
      rw [hrun]
      simp only [Oper.upon]
      have hf : putSt ops (fun j => if j = i then .pointer (some ⟨g, 0, none⟩) else v j) a (fun j => listed.getD j false) (i + 1) = putSt ops (fun j => if j = i then .pointer (some ⟨w.heap.size, 0, none⟩) else v j) a (fun j => listed.getD j false) (i + 1) :=
        putSt_vals (i + 1) fun j hj hS => by
          have hne : j ≠ i := fun e => by subst e; rw [show listed.getD j false = false from huni'] at hS; cases hS
          simp [hne]
      have hset' := hset (fun j => if j = i then .pointer (some ⟨w.heap.size, 0, none⟩) else v j)
      simp only [if_true, hdm] at hset'
      rw [hf, hset']
      refine ih _ w.heap.size _ hleft (inv.set hi hin) ?_
      have h1 : (listed.setIfInBounds i true).getD i false = true := by simp [hisz]
      rw [h1]
      exact ⟨hw.1.alloc hw.1.size _, fun _ => ⟨hw.1.size, heap_alloc_last w _⟩⟩
    · have him : i < m := by omega
      have hpre : putSt ops v a (fun _ => true) i = putSt ops (fun j => if j = m then .pointer (some ⟨g, 0, none⟩) else v j) a (fun j => decide (j < i)) (m + 1) := by
        have h1 : ∀ k, i ≤ k → putSt ops (fun j => if j = m then .pointer (some ⟨g, 0, none⟩) else v j) a (fun j => decide (j < i)) k = putSt ops v a (fun _ => true) i := by
          intro k hk
          induction k with
          | zero => have : i = 0 := by omega
                    subst this; rfl
          | succ k ihk =>
            by_cases e : i = k + 1
            · subst e
              rw [putSt_congr (T := fun _ => true) _ (fun j hj => by simp [hj])]
              exact putSt_vals _ fun j hj _ => if_neg (by omega)
            · have h1 : decide (k < i) = false := by simp; omega
              simp only [putSt, h1, Bool.false_eq_true, if_false]
              exact ihk (by omega)
        exact (h1 (m + 1) (by omega)).symm
      have hy0 := hv i oi him hoi (Made W t cs (listed.getD m false) g) (made_stable W t cs _ g)
      rw [hpre] at hy0
      generalize hvv : (fun j => if j = m then Value.pointer (some ⟨g, 0, none⟩) else v j) = vg at hy0 hset ⊢
      have hvi : vg i = v i := by rw [← hvv]; exact if_neg eim
      have hsS := putSt_same (v := vg) (a := a) (hsi i oi · · hoi) hd (S := fun j => decide (j < i)) (T := fun j => decide (j < i) || listed.getD j false) (fun j hj => by simp [show decide (j < i) = true from hj]) (fun j hj hTj hSj d hdj => by
        have h1 : ¬ j < i := by simpa using hSj
        have h2 : listed.getD j false = true := by simpa [h1] using hTj
        have hne : j ≠ i := fun e => by subst e; rw [huni'] at h2; cases h2
        exact headB_look hh i j oi hin hj hne hoi (fun hx => h1 hx.1) d hdj)
      have hsT := putSt_same (v := vg) (a := a) (hsi i oi · · hoi) hd (S := fun j => listed.getD j false) (T := fun j => decide (j < i) || listed.getD j false) (fun j hj => by simp [show listed.getD j false = true from hj]) (fun j hj hTj hSj d hdj => by
        have h2 : listed.getD j false = false := hSj
        have hne : j ≠ i := fun e => by
          subst e
          simp [h2] at hTj
        refine headB_look hh i j oi hin hj hne hoi (fun hx => ?_) d hdj
        obtain ⟨o', ho', e, hea, hb, hon⟩ := Region.waitsFor_spec hx.2
        obtain rfl : o' = oi := Option.some.inj (ho'.symm.trans hoi)
        have h3 := hall e hea hb
        rw [hon, h2] at h3
        cases h3)
      have hy : YieldsIn P ops (Made W t cs (listed.getD m false) g) oi (v i) (putSt ops vg a (fun j => listed.getD j false) (m + 1)) := hy0.of_same (hsT.1.symm.trans hsS.1) (hsT.2.symm.trans hsS.2)
      refine wpOp_of_qOp (K := fun a' => a' = (putSt ops vg a (fun j => listed.getD j false) (m + 1)).put oi.dst (v i)) hw (fun a' w' hw' ha' => ?_) (hy.qOp hoi rfl)
      have hset' := hset vg
      rw [show dsOf ops i = oi.dst by simp [dsOf, hoi], hvi] at hset'
      rw [ha', hset', ← hvv]
      refine ih _ g w' hleft (inv.set hi hin) ?_
      rw [getD_set_ne false eim]
      exact hw'

/-- **The law with a block.** -/
theorem wp_region_made {id : Nat} {Q : Exit → Act → World → Prop} {a : Act} {w : World} {l : List Oper} (m : Nat) {t : TypeId} {cs : Array Value} {om : Oper} (hm : P.follows .mixedOrders = true) (hB : Region.clsB l.toArray (m + 1) = true) (hom : l[m]? = some om) (hgm : om.guard = none)
    (hrun : ∀ (a : Act) (w : World), (execOp a.eval om).run P w = .ok (.value (.pointer (some ⟨w.heap.size, 0, none⟩))) (w.alloc (.cells cs t)))
    (h : wpBel P w (fun a' => ∀ g w', Below w.heap.size w w' → w.heap.size ≤ g → Blk w' g t cs → wpList P l.toArray Q (l.drop (m + 1)) (a'.put om.dst (.pointer (some ⟨g, 0, none⟩))) w') (l.take m) a) : (Code.region id l.toArray true).wp P Q a w := by
  have hB' := hB
  simp only [Region.clsB, Bool.and_eq_true, decide_eq_true_eq] at hB'
  obtain ⟨⟨⟨⟨⟨⟨hsel, hn⟩, hs⟩, hc⟩, hh⟩, he⟩, hq⟩ := hB'
  have hn' : m + 1 < l.length := by simpa using hn
  have htl : (l.take m).length = m := by simp; omega
  have hdl : (l.drop (m + 1)).length = l.toArray.size - (m + 1) := by simp
  obtain ⟨v, _, hv, hR⟩ := values_of_bel (P := P) (ops := l.toArray) (a := a) m (l.take m) 0 (fun _ => undef) (by simpa using htl) (fun j hj => by
    have hj' : j < m := by rw [htl] at hj; exact hj
    simp [hj']) h
  have inv0 : HeadInv .any l.toArray (m + 1) (Array.replicate l.toArray.size false) :=
    ⟨by simp, fun j oj _ hl => (by rw [getD_replicate_false] at hl; cases hl), fun t _ ht => getD_in (by simpa using ht) (getD_replicate_false _ _)⟩
  have hl0 : leftOf (Array.replicate l.toArray.size false) (m + 1) = m + 1 := by
    unfold leftOf
    rw [List.countP_eq_length.2 (fun i _ => by rw [getD_replicate_false]; rfl), List.length_range]
  have H := any_of_alloc (P := P) (W := w) (Q := Q) (a := a) (v := v) hB (by simpa using hom) hgm hrun (fun i o hi ho => hv i o (Nat.zero_le _) hi ho) (fun g w' hw' => by
    have := wpAny_of_seq (md := .any) (Q' := Q) (l.drop (m + 1)) (m + 1) (headDone l.toArray (m + 1)) _ w' (fun j => by simp [List.getElem?_drop]) (by rw [hdl]; exact hq) (hR g w' hw'.1 (hw'.2 rfl).1 (hw'.2 rfl).2)
    rwa [hdl] at this) (m + 1) (Array.replicate l.toArray.size false) 0 w.drew hl0 inv0 ⟨(Below.refl _ _).drew, fun e => by rw [getD_replicate_false] at e; cases e⟩
  rw [show (m + 1) + (l.toArray.size - (m + 1)) = l.toArray.size by omega, putSt_congr (S := fun j => (Array.replicate l.toArray.size false).getD j false) (T := fun _ => false) (m + 1) (fun j _ => getD_replicate_false _ _)] at H
  have hnone : ∀ (u : Nat → Value) k, putSt l.toArray u a (fun _ => false) k = a := by
    intro u k
    induction k with
    | zero => rfl
    | succ k ih => simp only [putSt, Bool.false_eq_true, if_false]; exact ih
  rw [hnone] at H
  exact wp_region_any hm H

end
end Go.Proofs.Ytengnjffajimdaa
