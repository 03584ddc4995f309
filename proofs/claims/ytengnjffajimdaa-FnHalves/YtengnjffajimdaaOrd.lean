/-
  A region that draws its order, walked along an order that one names: operations that give one value in every world of S are taken first, the others come up alone.
-/
import Derived.Test.YtengnjffajimdaaBlk
import Derived.OrdersHeld
import Derived.Deep.RegionHeld3
namespace Go.Proofs.Ytengnjffajimdaa
open Go.RowKit

section
variable {P : Program} {ops : Array Oper} {S : World → Prop} {Q : Exit → Act → World → Prop} {R : Act → World → Prop}

/-- May the region be walked so? (Each with the word whether it comes up alone.) -/
def ordB (ops : Array Oper) : List (Nat × Bool) → Array Bool → Bool
  | [], listed => (Region.ready .any ops listed).isEmpty
  | (k, true) :: r, listed => decide (Region.ready .any ops listed = [k]) && ordB ops r (listed.setIfInBounds k true)
  | (k, false) :: r, listed => (Region.ready .any ops listed).contains k && Region.free .any ops listed k && ordB ops r (listed.setIfInBounds k true)

/-- What has come up behind the order, if the region may be walked so. -/
def ordTo (ops : Array Oper) : List (Nat × Bool) → Array Bool → Option (Array Bool)
  | [], listed => some listed
  | (k, true) :: r, listed => if Region.ready .any ops listed = [k] then ordTo ops r (listed.setIfInBounds k true) else none
  | (k, false) :: r, listed => if ((Region.ready .any ops listed).contains k && Region.free .any ops listed k) = true then ordTo ops r (listed.setIfInBounds k true) else none

/-- The walk, to R. -/
def wpOrd (P : Program) (ops : Array Oper) (Q : Exit → Act → World → Prop) (S : World → Prop) (R : Act → World → Prop) : List (Nat × Bool) → Act → World → Prop
  | [], a, w => R a w
  | (k, true) :: r, a, w => wpOp P ops (NoPanic Q) k (fun a' w' => S w' ∧ wpOrd P ops Q S R r a' w') a w
  | (k, false) :: r, a, w => ∃ o v, ops[k]? = some o ∧ YieldsIf P ops S o v a ∧ wpOrd P ops Q S R r (a.put o.dst v) w

theorem anyH_of_ord (hs : Region.noSelect ops = true) : ∀ (order : List (Nat × Bool)) (listed : Array Bool) (a : Act) (w : World), ordB ops order listed = true → S w → wpOrd P ops Q S (Q .normal) order a w →
    wpAnyH P .any ops (NoPanic Q) S order.length listed a w
  | [], listed, a, w, hB, _, h => by
    have h0 : Region.ready .any ops listed = [] := by simpa [ordB] using hB
    exact wpAnyH_done h0 (NoPanic.normal h) 0
  | (k, true) :: r, listed, a, w, hB, hS, h => by
    simp only [ordB, Bool.and_eq_true, decide_eq_true_eq] at hB
    refine wpAnyH_all hB.1 (by simp) fun i hi => ?_
    have hik : i = k := by simpa using hi
    subst hik
    exact wpOp_mono (fun a' w' ⟨h1, h2⟩ => ⟨h1, anyH_of_ord hs r _ a' w' hB.2 h1 h2⟩) h
  | (k, false) :: r, listed, a, w, hB, hS, h => by
    simp only [ordB, Bool.and_eq_true] at hB
    obtain ⟨o, v, ho, hy, hr⟩ := h
    exact wpAnyH_take ho hs hB.1.2 hB.1.1 (fun c a w h => h) hy hS (anyH_of_ord hs r _ _ w hB.2 hS hr)

theorem wp_region_ord {id : Nat} {a : Act} {w : World} {l : List Oper} (order : List (Nat × Bool)) (S : World → Prop) (hm : P.follows .mixedOrders = true)
    (hB : (Region.noSelect l.toArray && decide (order.length = l.length) && ordB l.toArray order (Array.replicate l.length false)) = true) (hS : S w.drew) (h : wpOrd P l.toArray Q S (Q .normal) order a w.drew) : (Code.region id l.toArray true).wp P Q a w := by
  simp only [Bool.and_eq_true, decide_eq_true_eq] at hB
  obtain ⟨⟨hs, hl⟩, hB⟩ := hB
  refine wp_region_noPanic (wp_region_held (S := S) hm ?_)
  have := anyH_of_ord hs order (Array.replicate l.length false) a w.drew hB hS h
  rw [hl] at this
  simpa using this

/-- Along an order, then on. -/
theorem anyH_of_to (hs : Region.noSelect ops = true) : ∀ (order : List (Nat × Bool)) (n : Nat) (listed listed' : Array Bool) (a : Act) (w : World), ordTo ops order listed = some listed' → S w → wpOrd P ops Q S (fun a w => wpAnyH P .any ops (NoPanic Q) S n listed' a w) order a w →
    wpAnyH P .any ops (NoPanic Q) S (n + order.length) listed a w
  | [], n, listed, listed', a, w, hB, _, h => by
    simp only [ordTo, Option.some.injEq] at hB
    subst hB
    exact h
  | (k, true) :: r, n, listed, listed', a, w, hB, hS, h => by
    simp only [ordTo] at hB
    split at hB
    · rename_i h0
      refine wpAnyH_all h0 (by simp) fun i hi => ?_
      have hik : i = k := by simpa using hi
      subst hik
      exact wpOp_mono (fun a' w' ⟨h1, h2⟩ => ⟨h1, anyH_of_to hs r n _ _ a' w' hB h1 h2⟩) h
    · cases hB
  | (k, false) :: r, n, listed, listed', a, w, hB, hS, h => by
    simp only [ordTo] at hB
    split at hB
    · rename_i h0
      rw [Bool.and_eq_true] at h0
      obtain ⟨o, v, ho, hy, hr⟩ := h
      exact wpAnyH_take ho hs h0.2 h0.1 (fun c a w h => h) hy hS (anyH_of_to hs r n _ _ _ w hB hS hr)
    · cases hB

/-- The beginning of a region along an order; then one walks on from there. -/
theorem wp_region_to {id : Nat} {a : Act} {w : World} {l : List Oper} (order : List (Nat × Bool)) (n : Nat) (listed' : Array Bool) (S : World → Prop) (hm : P.follows .mixedOrders = true)
    (hB : (Region.noSelect l.toArray && decide (n + order.length = l.length) && decide (ordTo l.toArray order (Array.replicate l.length false) = some listed')) = true) (hS : S w.drew)
    (h : wpOrd P l.toArray Q S (fun a w => wpAnyH P .any l.toArray (NoPanic Q) S n listed' a w) order a w.drew) : (Code.region id l.toArray true).wp P Q a w := by
  simp only [Bool.and_eq_true, decide_eq_true_eq] at hB
  obtain ⟨⟨hs, hl⟩, hB⟩ := hB
  refine wp_region_noPanic (wp_region_held (S := S) hm ?_)
  have := anyH_of_to hs order n (Array.replicate l.length false) listed' a w.drew hB hS h
  rw [hl] at this
  simpa using this

/-- On along an order, to the end. -/
theorem anyH_ord {n : Nat} {listed : Array Bool} {a : Act} {w : World} (order : List (Nat × Bool)) (hB : (Region.noSelect ops && decide (order.length = n) && ordB ops order listed) = true) (hS : S w) (h : wpOrd P ops Q S (Q .normal) order a w) : wpAnyH P .any ops (NoPanic Q) S n listed a w := by
  simp only [Bool.and_eq_true, decide_eq_true_eq] at hB
  obtain ⟨⟨hs, hl⟩, hB⟩ := hB
  subst hl
  exact anyH_of_ord hs order listed a w hB hS h

/-- On along an order, to a place. -/
theorem anyH_to {n : Nat} {listed : Array Bool} {a : Act} {w : World} (order : List (Nat × Bool)) (m : Nat) (listed' : Array Bool) (hB : (Region.noSelect ops && decide (m + order.length = n) && decide (ordTo ops order listed = some listed')) = true) (hS : S w)
    (h : wpOrd P ops Q S (fun a w => wpAnyH P .any ops (NoPanic Q) S m listed' a w) order a w) : wpAnyH P .any ops (NoPanic Q) S n listed a w := by
  simp only [Bool.and_eq_true, decide_eq_true_eq] at hB
  obtain ⟨⟨hs, hl⟩, hB⟩ := hB
  subst hl
  exact anyH_of_to hs order m listed listed' a w hB hS h

/-- Two may come up: each way. -/
theorem anyH_two {n i j : Nat} {listed : Array Bool} {a : Act} {w : World} (li lj : Array Bool) (hB : (decide (Region.ready .any ops listed = [i, j]) && decide (listed.setIfInBounds i true = li) && decide (listed.setIfInBounds j true = lj)) = true)
    (hi : wpOrd P ops Q S (fun a w => wpAnyH P .any ops (NoPanic Q) S n li a w) [(i, true)] a w)
    (hj : wpOrd P ops Q S (fun a w => wpAnyH P .any ops (NoPanic Q) S n lj a w) [(j, true)] a w) : wpAnyH P .any ops (NoPanic Q) S (n + 1) listed a w := by
  simp only [Bool.and_eq_true, decide_eq_true_eq] at hB
  obtain ⟨⟨h0, h1⟩, h2⟩ := hB
  refine wpAnyH_all h0 (by simp) fun k hk => ?_
  simp only [List.mem_cons, List.not_mem_nil, or_false] at hk
  rcases hk with rfl | rfl
  · rw [h1]; exact hi
  · rw [h2]; exact hj

theorem ord_nil {a : Act} {w : World} (h : R a w) : wpOrd P ops Q S R [] a w := h
/-- One that is passed over. -/
theorem ord_skip {k : Nat} {r : List (Nat × Bool)} {a : Act} {w : World} {o : Oper} (ho : ops[k]? = some o) (hw : Region.wanted o (yielded ops a.tmps) = false)
    (h : ∀ K : Act → Prop, (∀ a, wpOrd P ops Q S R r a w → K a) → K (a.put o.dst undef)) : wpOrd P ops Q S R ((k, false) :: r) a w := by
  exact ⟨o, undef, ho, .inr ⟨hw, rfl⟩, h _ (fun _ h => h)⟩
theorem ord_float {k : Nat} {r : List (Nat × Bool)} {a : Act} {w : World} {o : Oper} (ho : ops[k]? = some o) (hw : Region.wanted o (yielded ops a.tmps) = true)
    (h : ∀ K : Act → Prop, (∀ a, wpOrd P ops Q S R r a w → K a) → ∃ v, (∀ w, S w → (execOp a.eval o).run P w = .ok (.value v) w) ∧ K (a.put o.dst v)) : wpOrd P ops Q S R ((k, false) :: r) a w := by
  obtain ⟨v, h1, h2⟩ := h _ (fun _ h => h)
  exact ⟨o, v, ho, .inl ⟨hw, h1⟩, h2⟩
theorem ord_call {k : Nat} {r : List (Nat × Bool)} {a : Act} {w : World} {o : Oper} (ho : ops[k]? = some o) (hw : Region.wanted o (yielded ops a.tmps) = true)
    (h : ∀ K : Act → World → Prop, (∀ a w, wpOrd P ops Q S R r a w → K a w) → ∃ f args, (execOp a.eval o).run P w = .ok (.enter f args) w ∧ Calls P f args w fun e w' => ∃ v, e = .returned v ∧ S w' ∧ K (a.put o.dst v) w') : wpOrd P ops Q S R ((k, true) :: r) a w := by
  obtain ⟨f, args, h1, h2⟩ := h _ (fun _ _ h => h)
  show wpOp P ops (NoPanic Q) k _ a w
  unfold wpOp
  simp only [ho]
  rw [if_pos hw]
  refine .inl ?_
  unfold Oper.wp
  rw [h1]
  simp only [Oper.upon]
  exact h2.mono fun e w' ⟨v, he, hS, hK⟩ => by subst he; exact ⟨hS, hK⟩
/-- An operation that comes up alone and changes the world. -/
theorem ord_op {k : Nat} {r : List (Nat × Bool)} {a : Act} {w : World} {o : Oper} (ho : ops[k]? = some o) (hw : Region.wanted o (yielded ops a.tmps) = true)
    (h : ∀ K : Act → World → Prop, (∀ a w, wpOrd P ops Q S R r a w → K a w) → ∃ v w', (execOp a.eval o).run P w = .ok (.value v) w' ∧ S w' ∧ K (a.put o.dst v) w') : wpOrd P ops Q S R ((k, true) :: r) a w := by
  obtain ⟨v, w', h1, h2, h3⟩ := h _ (fun _ _ h => h)
  show wpOp P ops (NoPanic Q) k _ a w
  unfold wpOp
  simp only [ho]
  rw [if_pos hw]
  refine .inl ?_
  unfold Oper.wp
  rw [h1]
  exact ⟨h2, h3⟩
/-- A whole struct into its block. -/
theorem ord_store {k : Nat} {r : List (Nat × Bool)} {a : Act} {w : World} {o : Oper} (ho : ops[k]? = some o) (hw : Region.wanted o (yielded ops a.tmps) = true) (hd : o.dst = none) {t : TypeId} {p v : Operand} (hop : o.op = Op.store t p v)
    {g : Nat} {t' : TypeId} {cs cs' : Array Value} (hp : a.eval p = .pointer (some ⟨g, 0, none⟩)) (hv : a.eval v = .agg cs') (h : Blk w g t' cs) (hi : (P.info? t).map (·.size) = some cs'.size) (hz : cs.size = cs'.size) (h1 : cs'.all (·.oneCell') = true)
    (K : ∀ w', Blk w' g t' cs' → (∀ g' t'' cs'', g ≠ g' → Blk w g' t'' cs'' → Blk w' g' t'' cs'') → (∀ B w0, B ≤ g → Below B w0 w → Below B w0 w') → S w' ∧ wpOrd P ops Q S R r a w') : wpOrd P ops Q S R ((k, true) :: r) a w := by
  show wpOp P ops (NoPanic Q) k _ a w
  unfold wpOp
  simp only [ho]
  rw [if_pos hw]
  refine .inl ?_
  have hrun : (Instr.storeAt t (.pointer (some ⟨g, 0, none⟩)) (.agg cs')).run P w = .ok () (w.setRow g cs') := by
    simp only [Instr.storeAt, Instr.sureAddr, Sem.run_bind, Sem.run_pure, Result.andThen]
    exact h.store hi hz h1
  unfold Oper.wp
  simp [execOp, hop, hp, hv, hrun, Result.andThen]
  simp only [Oper.upon]
  rw [show a.put o.dst undef = a by rw [hd]; rfl]
  exact K _ (h.row cs') (fun g' t'' cs'' hne h' => h'.rowOther hne _) (fun _ _ hB hb => below_setRow hb hB _)

end
end Go.Proofs.Ytengnjffajimdaa
