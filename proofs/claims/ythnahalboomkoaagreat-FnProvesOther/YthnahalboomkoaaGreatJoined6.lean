/-
  Texts of one's own, joined.
-/
import Derived.Test.YthnahalboomkoaaGreatJoined3
import Derived.OrdersHeld
import Derived.Deep.RegionHeld3
import Derived.Below
import Derived.ProofKit
import Derived.Test.YthnahalboomkoaaGreatProg
import Derived.WalkKit
import Derived.StillTail
import Derived.StillTailTactics
import Derived.Laws.AppendOwn
import Derived.Test.YthnahalboomkoaaGreatBytes

/-
  A region that draws its order, walked along an order that one names: operations that give one value in every world of S are taken first, the others come up alone.
-/
namespace Go.Proofs.YthnahalboomkoaaGreat
open Go.RowKit

section
variable {P : Program} {ops : Array Oper} {S : World → Prop} {Q : Exit → Act → World → Prop} {R : Act → World → Prop}

/-- May the region be walked so? (Each with the word whether it comes up alone.) -/
def ordB (ops : Array Oper) : List (Nat × Bool) → Array Bool → Bool
  | [], listed => (Region.ready .any ops listed).isEmpty
  | (k, true) :: r, listed => decide (Region.ready .any ops listed = [k]) && ordB ops r (listed.setIfInBounds k true)
  | (k, false) :: r, listed => (Region.ready .any ops listed).contains k && Region.free .any ops listed k && ordB ops r (listed.setIfInBounds k true)

/-- What has come up behind the order, if the region may be walked so. -/
def ordTo (ops : Array Oper) : List (Nat × Bool) → Array Bool → Option (Array Bool)
  | [], listed => some listed
  | (k, true) :: r, listed => if Region.ready .any ops listed = [k] then ordTo ops r (listed.setIfInBounds k true) else none
  | (k, false) :: r, listed => if ((Region.ready .any ops listed).contains k && Region.free .any ops listed k) = true then ordTo ops r (listed.setIfInBounds k true) else none

/-- The walk, to R. -/
def wpOrd (P : Program) (ops : Array Oper) (Q : Exit → Act → World → Prop) (S : World → Prop) (R : Act → World → Prop) : List (Nat × Bool) → Act → World → Prop
  | [], a, w => R a w
  | (k, true) :: r, a, w => wpOp P ops (NoPanic Q) k (fun a' w' => S w' ∧ wpOrd P ops Q S R r a' w') a w
  | (k, false) :: r, a, w => ∃ o v, ops[k]? = some o ∧ YieldsIf P ops S o v a ∧ wpOrd P ops Q S R r (a.put o.dst v) w

theorem anyH_of_ord (hs : Region.noSelect ops = true) : ∀ (order : List (Nat × Bool)) (listed : Array Bool) (a : Act) (w : World), ordB ops order listed = true → S w → wpOrd P ops Q S (Q .normal) order a w →
    wpAnyH P .any ops (NoPanic Q) S order.length listed a w
  | [], listed, a, w, hB, _, h => by
    have h0 : Region.ready .any ops listed = [] := by simpa [ordB] using hB
    exact wpAnyH_done h0 (NoPanic.normal h) 0
  | (k, true) :: r, listed, a, w, hB, hS, h => by
    simp only [ordB, Bool.and_eq_true, decide_eq_true_eq] at hB
    refine wpAnyH_all hB.1 (by simp) fun i hi => ?_
    have hik : i = k := by simpa using hi
    subst hik
    exact wpOp_mono (fun a' w' ⟨h1, h2⟩ => ⟨h1, anyH_of_ord hs r _ a' w' hB.2 h1 h2⟩) h
  | (k, false) :: r, listed, a, w, hB, hS, h => by
    simp only [ordB, Bool.and_eq_true] at hB
    obtain ⟨o, v, ho, hy, hr⟩ := h
    exact wpAnyH_take ho hs hB.1.2 hB.1.1 (fun c a w h => h) hy hS (anyH_of_ord hs r _ _ w hB.2 hS hr)

theorem wp_region_ord {id : Nat} {a : Act} {w : World} {l : List Oper} (order : List (Nat × Bool)) (S : World → Prop) (hm : P.follows .mixedOrders = true)
    (hB : (Region.noSelect l.toArray && decide (order.length = l.length) && ordB l.toArray order (Array.replicate l.length false)) = true) (hS : S w.drew) (h : wpOrd P l.toArray Q S (Q .normal) order a w.drew) : (Code.region id l.toArray true).wp P Q a w := by
  simp only [Bool.and_eq_true, decide_eq_true_eq] at hB
  obtain ⟨⟨hs, hl⟩, hB⟩ := hB
  refine wp_region_noPanic (wp_region_held (S := S) hm ?_)
  have := anyH_of_ord hs order (Array.replicate l.length false) a w.drew hB hS h
  rw [hl] at this
  simpa using this

/-- Along an order, then on. -/
theorem anyH_of_to (hs : Region.noSelect ops = true) : ∀ (order : List (Nat × Bool)) (n : Nat) (listed listed' : Array Bool) (a : Act) (w : World), ordTo ops order listed = some listed' → S w → wpOrd P ops Q S (fun a w => wpAnyH P .any ops (NoPanic Q) S n listed' a w) order a w →
    wpAnyH P .any ops (NoPanic Q) S (n + order.length) listed a w
  | [], n, listed, listed', a, w, hB, _, h => by
    simp only [ordTo, Option.some.injEq] at hB
    subst hB
    exact h
  | (k, true) :: r, n, listed, listed', a, w, hB, hS, h => by
    simp only [ordTo] at hB
    split at hB
    · rename_i h0
      refine wpAnyH_all h0 (by simp) fun i hi => ?_
      have hik : i = k := by simpa using hi
      subst hik
      exact wpOp_mono (fun a' w' ⟨h1, h2⟩ => ⟨h1, anyH_of_to hs r n _ _ a' w' hB h1 h2⟩) h
    · cases hB
  | (k, false) :: r, n, listed, listed', a, w, hB, hS, h => by
    simp only [ordTo] at hB
    split at hB
    · rename_i h0
      rw [Bool.and_eq_true] at h0
      obtain ⟨o, v, ho, hy, hr⟩ := h
      exact wpAnyH_take ho hs h0.2 h0.1 (fun c a w h => h) hy hS (anyH_of_to hs r n _ _ _ w hB hS hr)
    · cases hB

/-- The beginning of a region along an order; then one walks on from there. -/
theorem wp_region_to {id : Nat} {a : Act} {w : World} {l : List Oper} (order : List (Nat × Bool)) (n : Nat) (listed' : Array Bool) (S : World → Prop) (hm : P.follows .mixedOrders = true)
    (hB : (Region.noSelect l.toArray && decide (n + order.length = l.length) && decide (ordTo l.toArray order (Array.replicate l.length false) = some listed')) = true) (hS : S w.drew)
    (h : wpOrd P l.toArray Q S (fun a w => wpAnyH P .any l.toArray (NoPanic Q) S n listed' a w) order a w.drew) : (Code.region id l.toArray true).wp P Q a w := by
  simp only [Bool.and_eq_true, decide_eq_true_eq] at hB
  obtain ⟨⟨hs, hl⟩, hB⟩ := hB
  refine wp_region_noPanic (wp_region_held (S := S) hm ?_)
  have := anyH_of_to hs order n (Array.replicate l.length false) listed' a w.drew hB hS h
  rw [hl] at this
  simpa using this

/-- On along an order, to the end. -/
theorem anyH_ord {n : Nat} {listed : Array Bool} {a : Act} {w : World} (order : List (Nat × Bool)) (hB : (Region.noSelect ops && decide (order.length = n) && ordB ops order listed) = true) (hS : S w) (h : wpOrd P ops Q S (Q .normal) order a w) : wpAnyH P .any ops (NoPanic Q) S n listed a w := by
  simp only [Bool.and_eq_true, decide_eq_true_eq] at hB
  obtain ⟨⟨hs, hl⟩, hB⟩ := hB
  subst hl
  exact anyH_of_ord hs order listed a w hB hS h

theorem ord_nil {a : Act} {w : World} (h : R a w) : wpOrd P ops Q S R [] a w := h
/-- One that is passed over. -/
theorem ord_skip {k : Nat} {r : List (Nat × Bool)} {a : Act} {w : World} {o : Oper} (ho : ops[k]? = some o) (hw : Region.wanted o (yielded ops a.tmps) = false)
    (h : ∀ K : Act → Prop, (∀ a, wpOrd P ops Q S R r a w → K a) → K (a.put o.dst undef)) : wpOrd P ops Q S R ((k, false) :: r) a w := by
  exact ⟨o, undef, ho, .inr ⟨hw, rfl⟩, h _ (fun _ h => h)⟩
theorem ord_float {k : Nat} {r : List (Nat × Bool)} {a : Act} {w : World} {o : Oper} (ho : ops[k]? = some o) (hw : Region.wanted o (yielded ops a.tmps) = true)
    (h : ∀ K : Act → Prop, (∀ a, wpOrd P ops Q S R r a w → K a) → ∃ v, (∀ w, S w → (execOp a.eval o).run P w = .ok (.value v) w) ∧ K (a.put o.dst v)) : wpOrd P ops Q S R ((k, false) :: r) a w := by
  obtain ⟨v, h1, h2⟩ := h _ (fun _ h => h)
  exact ⟨o, v, ho, .inl ⟨hw, h1⟩, h2⟩
theorem ord_call {k : Nat} {r : List (Nat × Bool)} {a : Act} {w : World} {o : Oper} (ho : ops[k]? = some o) (hw : Region.wanted o (yielded ops a.tmps) = true)
    (h : ∀ K : Act → World → Prop, (∀ a w, wpOrd P ops Q S R r a w → K a w) → ∃ f args, (execOp a.eval o).run P w = .ok (.enter f args) w ∧ Calls P f args w fun e w' => ∃ v, e = .returned v ∧ S w' ∧ K (a.put o.dst v) w') : wpOrd P ops Q S R ((k, true) :: r) a w := by
  obtain ⟨f, args, h1, h2⟩ := h _ (fun _ _ h => h)
  show wpOp P ops (NoPanic Q) k _ a w
  unfold wpOp
  simp only [ho]
  rw [if_pos hw]
  refine .inl ?_
  unfold Oper.wp
  rw [h1]
  simp only [Oper.upon]
  exact h2.mono fun e w' ⟨v, he, hS, hK⟩ => by subst he; exact ⟨hS, hK⟩
/-- An operation that comes up alone and changes the world. -/
theorem ord_op {k : Nat} {r : List (Nat × Bool)} {a : Act} {w : World} {o : Oper} (ho : ops[k]? = some o) (hw : Region.wanted o (yielded ops a.tmps) = true)
    (h : ∀ K : Act → World → Prop, (∀ a w, wpOrd P ops Q S R r a w → K a w) → ∃ v w', (execOp a.eval o).run P w = .ok (.value v) w' ∧ S w' ∧ K (a.put o.dst v) w') : wpOrd P ops Q S R ((k, true) :: r) a w := by
  obtain ⟨v, w', h1, h2, h3⟩ := h _ (fun _ _ h => h)
  show wpOp P ops (NoPanic Q) k _ a w
  unfold wpOp
  simp only [ho]
  rw [if_pos hw]
  refine .inl ?_
  unfold Oper.wp
  rw [h1]
  exact ⟨h2, h3⟩
/-- A whole struct into its block. -/
theorem ord_store {k : Nat} {r : List (Nat × Bool)} {a : Act} {w : World} {o : Oper} (ho : ops[k]? = some o) (hw : Region.wanted o (yielded ops a.tmps) = true) (hd : o.dst = none) {t : TypeId} {p v : Operand} (hop : o.op = Op.store t p v)
    {g : Nat} {t' : TypeId} {cs cs' : Array Value} (hp : a.eval p = .pointer (some ⟨g, 0, none⟩)) (hv : a.eval v = .agg cs') (h : Blk w g t' cs) (hi : (P.info? t).map (·.size) = some cs'.size) (hz : cs.size = cs'.size) (h1 : cs'.all (·.oneCell') = true)
    (K : ∀ w', Blk w' g t' cs' → (∀ g' t'' cs'', g ≠ g' → Blk w g' t'' cs'' → Blk w' g' t'' cs'') → (∀ B w0, B ≤ g → Below B w0 w → Below B w0 w') → S w' ∧ wpOrd P ops Q S R r a w') : wpOrd P ops Q S R ((k, true) :: r) a w := by
  show wpOp P ops (NoPanic Q) k _ a w
  unfold wpOp
  simp only [ho]
  rw [if_pos hw]
  refine .inl ?_
  have hrun : (Instr.storeAt t (.pointer (some ⟨g, 0, none⟩)) (.agg cs')).run P w = .ok () (w.setRow g cs') := by
    simp only [Instr.storeAt, Instr.sureAddr, Sem.run_bind, Sem.run_pure, Result.andThen]
    exact h.store hi hz h1
  unfold Oper.wp
  simp [execOp, hop, hp, hv, hrun, Result.andThen]
  simp only [Oper.upon]
  rw [show a.put o.dst undef = a by rw [hd]; rfl]
  exact K _ (h.row cs') (fun g' t'' cs'' hne h' => h'.rowOther hne _) (fun _ _ hB hb => below_setRow hb hB _)

end
end Go.Proofs.YthnahalboomkoaaGreat

/-
  A region that draws its order and ends with a store for which all others wait: what holds of the world ahead of that store need not hold behind it.
-/
namespace Go.Proofs.YthnahalboomkoaaGreat
open Go.RowKit

section
variable {P : Program} {ops : Array Oper} {Q : Exit → Act → World → Prop} {S : World → Prop} {R : Act → World → Prop} {s : Nat}

/-- As wpAnyH, but behind operation s nothing is asked of the world. -/
def wpAnyL (P : Program) (ops : Array Oper) (Q : Exit → Act → World → Prop) (s : Nat) (S : World → Prop) : Nat → Array Bool → Act → World → Prop
  | 0, listed, a, w => Region.ready .any ops listed = [] ∧ Q .normal a w
  | fuel + 1, listed, a, w =>
    (Region.ready .any ops listed = [] → Q .normal a w) ∧
    ∀ i ∈ Region.ready .any ops listed, wpOp P ops Q i (fun a' w' => (i ≠ s → S w') ∧ wpAnyL P ops Q s S fuel (listed.setIfInBounds i true) a' w') a w

theorem any_of_last : ∀ (fuel : Nat) (listed : Array Bool) (a : Act) (w : World), wpAnyL P ops Q s S fuel listed a w → wpAny P .any ops Q fuel listed a w
  | 0, _, _, _, h => h
  | fuel + 1, _, _, _, h => ⟨h.1, fun i hi => wpOp_mono (fun a' w' h' => any_of_last fuel _ a' w' h'.2) (h.2 i hi)⟩

theorem last_first {i : Nat} {oi os : Oper} {v : Value} (hi : ops[i]? = some oi) (his : i ≠ s) (hos : ops[s]? = some os) (hwait : ∃ e ∈ os.after, Region.binds .any e = true ∧ e.on = i)
    (hsel : ∀ (j : Nat) (o : Oper) cs b, ops[j]? = some o → o.op ≠ .select cs b)
    (hQ : ∀ c a w, Q (.panic c) (a.put oi.dst v) w → Q (.panic c) a w) :
    ∀ (fuel : Nat) (listed : Array Bool) (a : Act) (w : World),
      (∀ j oj, ops[j]? = some oj → j ≠ i → listed.getD j true = false → (∀ e ∈ oj.after, Region.binds .any e = true → e.on ≠ i) → oi.apart ops oj = true) →
      i ∈ Region.ready .any ops listed → YieldsIf P ops S oi v a → S w →
      wpAnyL P ops Q s S fuel (listed.setIfInBounds i true) (a.put oi.dst v) w → wpAnyL P ops Q s S (fuel + 1) listed a w := by
  intro fuel
  induction fuel with
  | zero =>
    intro listed a w _ hr hy hS H
    refine ⟨fun h => (by rw [h] at hr; cases hr), fun j hj => ?_⟩
    by_cases hji : j = i
    · subst hji; exact hy.wpOp hi hS ⟨fun _ => hS, H⟩
    · have := ready_mono hj hji
      rw [H.1] at this
      cases this
  | succ fuel ih =>
    intro listed a w hfree hr hy hS H
    refine ⟨fun h => (by rw [h] at hr; cases hr), fun j hj => ?_⟩
    by_cases hji : j = i
    · subst hji; exact hy.wpOp hi hS ⟨fun _ => hS, H⟩
    · have h1 := H.2 j (ready_mono hj hji)
      obtain ⟨hjun, oj, hoj, hall⟩ := mem_ready.1 hj
      have hnot : ∀ e ∈ oj.after, Region.binds .any e = true → e.on ≠ i := fun e he hb heq => by
        have h1 := hall e he hb
        have h0 := (mem_ready.1 hr).1
        rw [heq] at h1
        rcases Nat.lt_or_ge i listed.size with h' | h'
        · simp [h'] at h0 h1; rw [h0] at h1; cases h1
        · simp [Array.getElem?_eq_none h'] at h1
      have hjs : j ≠ s := fun e => by
        subst e
        obtain ⟨e, he, hb, ho⟩ := hwait
        rw [hos] at hoj
        cases hoj
        exact hnot e he hb ho
      have h2 := wpOp_putIf hoj (hfree j oj hoj hji hjun hnot) (fun cs b => hsel i oi cs b hi) (fun cs b => hsel j oj cs b hoj) hQ hy h1
      have hfree' : ∀ k ok, ops[k]? = some ok → k ≠ i → (listed.setIfInBounds j true).getD k true = false →
          (∀ e ∈ ok.after, Region.binds .any e = true → e.on ≠ i) → oi.apart ops ok = true := fun k ok hk hki hun hno => by
        refine hfree k ok hk hki ?_ hno
        by_cases hjk : j = k
        · subst hjk; exact hjun
        · rw [getD_set_ne true hjk] at hun; exact hun
      refine wpOp_mono (fun a' w' h3 => ⟨fun _ => h3.2.1 hjs, ih (listed.setIfInBounds j true) a' w' hfree' (ready_mono hr (Ne.symm hji)) h3.1 (h3.2.1 hjs) ?_⟩) h2
      rw [Array.setIfInBounds_comm _ _ hji]
      exact h3.2.2

/-- May the region be walked so, and s at its end? -/
def ordL (ops : Array Oper) (s : Nat) : List (Nat × Bool) → Array Bool → Bool
  | [], listed => decide (Region.ready .any ops listed = [s]) && (Region.ready .any ops (listed.setIfInBounds s true)).isEmpty
  | (k, true) :: r, listed => decide (Region.ready .any ops listed = [k]) && decide (k ≠ s) && ordL ops s r (listed.setIfInBounds k true)
  | (k, false) :: r, listed => (Region.ready .any ops listed).contains k && Region.free .any ops listed k && decide (k ≠ s) && (match ops[s]? with | some o => o.after.any (fun e => Region.binds .any e && decide (e.on = k)) | none => false) && ordL ops s r (listed.setIfInBounds k true)

theorem anyL_of_ord (hs : Region.noSelect ops = true) : ∀ (order : List (Nat × Bool)) (listed : Array Bool) (a : Act) (w : World), ordL ops s order listed = true → S w → wpOrd P ops Q S (fun a w => wpOp P ops (NoPanic Q) s (Q .normal) a w) order a w →
    wpAnyL P ops (NoPanic Q) s S (order.length + 1) listed a w
  | [], listed, a, w, hB, _, h => by
    simp only [ordL, Bool.and_eq_true, decide_eq_true_eq, List.isEmpty_iff] at hB
    refine ⟨fun h0 => (by rw [hB.1] at h0; cases h0), fun i hi => ?_⟩
    rw [hB.1, List.mem_singleton] at hi
    subst hi
    exact wpOp_mono (fun a' w' hq => ⟨fun hne => absurd rfl hne, hB.2, NoPanic.normal hq⟩) h
  | (k, true) :: r, listed, a, w, hB, hS, h => by
    simp only [ordL, Bool.and_eq_true, decide_eq_true_eq] at hB
    refine ⟨fun h0 => (by rw [hB.1.1] at h0; cases h0), fun i hi => ?_⟩
    rw [hB.1.1, List.mem_singleton] at hi
    subst hi
    exact wpOp_mono (fun a' w' ⟨h1, h2⟩ => ⟨fun _ => h1, anyL_of_ord hs r _ a' w' hB.2 h1 h2⟩) h
  | (k, false) :: r, listed, a, w, hB, hS, h => by
    simp only [ordL, Bool.and_eq_true, decide_eq_true_eq] at hB
    obtain ⟨o, v, ho, hy, hr⟩ := h
    obtain ⟨⟨⟨⟨h1, h2⟩, h3⟩, h4⟩, h5⟩ := hB
    cases hos : ops[s]? with
    | none => rw [hos] at h4; cases h4
    | some os =>
      rw [hos] at h4
      simp only [Array.any_eq_true] at h4
      obtain ⟨j, hj, hb⟩ := h4
      rw [Bool.and_eq_true, decide_eq_true_eq] at hb
      exact last_first ho h3 hos ⟨os.after[j], Array.getElem_mem hj, hb.1, hb.2⟩ (Region.noSelect_spec hs) (fun c a w h => h) _ listed a w (Region.free_spec ho h2) (by simpa using h1) hy hS (anyL_of_ord hs r _ _ w h5 hS hr)

/-- A region that draws, along an order that one names, and its last store. -/
theorem wp_region_last {id : Nat} {a : Act} {w : World} {l : List Oper} (order : List (Nat × Bool)) (s : Nat) (S : World → Prop) (hm : P.follows .mixedOrders = true)
    (hB : (Region.noSelect l.toArray && decide (order.length + 1 = l.length) && ordL l.toArray s order (Array.replicate l.length false)) = true) (hS : S w.drew)
    (h : wpOrd P l.toArray Q S (fun a w => wpOp P l.toArray (NoPanic Q) s (Q .normal) a w) order a w.drew) : (Code.region id l.toArray true).wp P Q a w := by
  simp only [Bool.and_eq_true, decide_eq_true_eq] at hB
  obtain ⟨⟨hs, hl⟩, hB⟩ := hB
  refine wp_region_noPanic (wp_region_any hm (any_of_last (s := s) (S := S) _ _ _ _ ?_))
  have := anyL_of_ord hs order (Array.replicate l.length false) a w.drew hB hS h
  rw [hl] at this
  simpa using this

/-- A store. -/
theorem last_store {K : Act → World → Prop} {a : Act} {w : World} {o : Oper} (ho : ops[s]? = some o) (hw : Region.wanted o (yielded ops a.tmps) = true) (hd : o.dst = none)
    (w' : World) (hr : (execOp a.eval o).run P w = .ok .skip w') (h : K a w') : wpOp P ops (NoPanic Q) s K a w := by
  unfold wpOp
  simp only [ho]
  rw [if_pos hw]
  refine .inl ?_
  unfold Oper.wp
  rw [hr]
  simp only [Oper.upon]
  rw [show a.put o.dst undef = a by rw [hd]; rfl]
  exact h

end
end Go.Proofs.YthnahalboomkoaaGreat

/-
  A region that draws its order and ends with a store into a struct's block.
-/
namespace Go.Proofs.YthnahalboomkoaaGreat
open Go.RowKit

section
variable {P : Program} {ops : Array Oper} {Q : Exit → Act → World → Prop} {s : Nat}

theorem last_storeB {K : Act → World → Prop} {a : Act} {w : World} {o : Oper} (ho : ops[s]? = some o) (hw : Region.wanted o (yielded ops a.tmps) = true) (hd : o.dst = none) {t : TypeId} {p v : Operand} (hop : o.op = Op.store t p v)
    {g : Nat} {t' : TypeId} {cs cs' : Array Value} (hp : a.eval p = .pointer (some ⟨g, 0, none⟩)) (hv : a.eval v = .agg cs') (h : Blk w g t' cs) (hi : (P.info? t).map (·.size) = some cs'.size) (hz : cs.size = cs'.size) (h1 : cs'.all (·.oneCell') = true)
    (hK : ∀ w', Blk w' g t' cs' → (∀ k, k ≠ g → w'.heap[k]? = w.heap[k]?) → (∀ g' t'' cs'', g ≠ g' → Blk w g' t'' cs'' → Blk w' g' t'' cs'') → (∀ B w0, B ≤ g → Below B w0 w → Below B w0 w') → K a w') : wpOp P ops (NoPanic Q) s K a w := by
  have hrun : (Instr.storeAt t (.pointer (some ⟨g, 0, none⟩)) (.agg cs')).run P w = .ok () (w.setRow g cs') := by
    simp only [Instr.storeAt, Instr.sureAddr, Sem.run_bind, Sem.run_pure, Result.andThen]
    exact h.store hi hz h1
  refine last_store ho hw hd (w.setRow g cs') (by simp [execOp, hop, hp, hv, hrun, Result.andThen]) ?_
  exact hK _ (h.row cs') (fun k hk => by simp only [World.setRow]; rw [Array.getElem?_modify, if_neg (fun e => hk e.symm)]) (fun g' t'' cs'' hne h' => h'.rowOther hne _) (fun _ _ hB hb => below_setRow hb hB _)

end
end Go.Proofs.YthnahalboomkoaaGreat

/-
  Lists of ints that lie below a block.
-/
namespace Go.Proofs.YthnahalboomkoaaGreat
open Go.RowKit

theorem mixesSc : Tryz.prog.follows .mixedOrders = true := by kernel_rfl

/-- What a list of ints holds; it lies below block c. -/
def IntsAt (w : World) (a : Option Addr) (len c : Nat) (f : Nat → Int) : Prop :=
  ∀ j, j < len → ∃ b off, a = some ⟨b, off, none⟩ ∧ b < c ∧ w.cell? ⟨b, off + j, none⟩ = some (.int .i64 (f j))

theorem IntsAt.on {w w1 : World} {a : Option Addr} {len c : Nat} {f : Nat → Int} (h : IntsAt w a len c f) (hb : Below c w w1) : IntsAt w1 a len c f := fun j hj => by
  obtain ⟨b, off, h1, h2, h3⟩ := h j hj
  exact ⟨b, off, h1, h2, (hb.cell (p := ⟨b, off + j, none⟩) h2).trans h3⟩

theorem IntsAt.wide {w : World} {a : Option Addr} {len c d : Nat} {f : Nat → Int} (h : IntsAt w a len c f) (hd : c ≤ d) : IntsAt w a len d f := fun j hj => by
  obtain ⟨b, off, h1, h2, h3⟩ := h j hj
  exact ⟨b, off, h1, by omega, h3⟩

end Go.Proofs.YthnahalboomkoaaGreat

/-
  Rows of ints: blocks, copies, whether two are the same.
  (-DROP-: what the seat lacks is left out.)
-/
namespace Go.Proofs.YthnahalboomkoaaGreat
open Go.RowKit

/-- The cells of a row of ints. -/
def ic (f : Nat → Int) (n : Nat) : Array Value := ((List.range n).map fun j => Value.int .i64 (f j)).toArray

theorem ic_size (f : Nat → Int) (n : Nat) : (ic f n).size = n := by simp [ic]

theorem ic_at (f : Nat → Int) {n j : Nat} (h : j < n) : (ic f n)[j]? = some (.int .i64 (f j)) := by simp [ic, h]

theorem ic_set (f : Nat → Int) (n j : Nat) (x : Int) : (ic f n).setIfInBounds j (.int .i64 x) = ic (fun i => if i = j then x else f i) n := by
  have e : (ic f n).setIfInBounds j (.int .i64 x) = (((List.range n).map fun j => Value.int .i64 (f j)).set j (.int .i64 x)).toArray := by simp [ic]
  rw [e]
  unfold ic
  congr 1
  apply List.ext_getElem
  · simp
  · intro i h1 h2
    by_cases h : j = i
    · subst h; simp
    · have h' : ¬ i = j := fun e => h e.symm
      rw [List.getElem_set_ne h]
      simp [h']

/-- Block g is a row of ints. -/
def RowI (w : World) (g n : Nat) (f : Nat → Int) : Prop := w.heap[g]? = some (.cells (ic f n) 3 (0, 0))

theorem RowI.cell {w : World} {g n : Nat} {f : Nat → Int} (h : RowI w g n f) {j : Nat} (hj : j < n) : w.cell? ⟨g, j, none⟩ = some (.int .i64 (f j)) := by
  rw [cell_of_row w g j _ 3 (0, 0) h, ic_at f hj]

theorem RowI.free {w : World} {g n : Nat} {f : Nat → Int} (h : RowI w g n f) (j : Nat) : w.frozen? ⟨g, j, none⟩ = false := frozen_of_row w g j _ 3 h

theorem RowI.lt {w : World} {g n : Nat} {f : Nat → Int} (h : RowI w g n f) : g < w.heap.size := by
  rcases Nat.lt_or_ge g w.heap.size with h1 | h1
  · exact h1
  · unfold RowI at h
    rw [Array.getElem?_eq_none h1] at h
    cases h

theorem RowI.set {w : World} {g n : Nat} {f : Nat → Int} (h : RowI w g n f) (j : Nat) (x : Int) : RowI (w.setCell ⟨g, j, none⟩ (.int .i64 x)) g n (fun i => if i = j then x else f i) := by
  have := heap_setCell_same w g j _ 3 (.int .i64 x) h
  rw [ic_set] at this
  exact this

theorem RowI.on {w w1 : World} {g n c : Nat} {f : Nat → Int} (h : RowI w g n f) (hb : Below c w w1) (hc : g < c) : RowI w1 g n f := (hb.block g hc).trans h

theorem RowI.ints {w : World} {g n c : Nat} {f : Nat → Int} (h : RowI w g n f) (hc : g < c) : IntsAt w (some ⟨g, 0, none⟩) n c f := fun j hj => ⟨g, 0, rfl, hc, by rw [Nat.zero_add]; exact h.cell hj⟩

theorem RowI.congr {w : World} {g n : Nat} {f f' : Nat → Int} (h : RowI w g n f) (hf : ∀ j, j < n → f j = f' j) : RowI w g n f' := by
  have e : ic f n = ic f' n := by
    unfold ic
    congr 1
    apply List.map_congr_left
    intro j hj
    rw [hf j (List.mem_range.1 hj)]
  unfold RowI
  rw [← e]
  exact h

theorem rowI_new (w : World) (f : Nat → Int) (n : Nat) : RowI (w.alloc (.cells (ic f n) 3)) w.heap.size n f := heap_alloc_new w _

theorem info3I : (Tryz.prog.info? 3).map (fun i => (i.zero, i.size, i.bytes)) = some (some (.int .i64 0), 1, 8) := by kernel_rfl

/-- make([]int, n, m). -/
theorem make_ints (n m : Nat) (h1 : n ≤ m) (h2 : m ≤ 1073741824) (W : World) :
    (Instr.makeSlice 27 (.int .i64 (n : Int)) (.int .i64 (m : Int))).run Tryz.prog W = .ok (.slice (some ⟨W.heap.size, 0, none⟩) n m) (W.alloc (.cells (ic (fun _ => 0) m) 3)) := by
  obtain ⟨i0, hi, hz0, hz1, hz2⟩ := info_parts info3I
  have hM : madeCells (Value.int .i64 0).cells ((m : Int).toNat * i0.size) = ic (fun _ => 0) m := by
    rw [hz1]
    have h3 := toList_madeCells_one (.int .i64 0) m
    apply Array.toList_inj.1
    have e : (ic (fun _ => 0) m).toList = List.replicate m (Value.int .i64 0) := by
      simp [ic, List.map_const', List.length_range]
    rw [e]
    simpa [Value.cells] using h3
  have h := run_make (P := Tryz.prog) W 27 3 i0 (.int .i64 0) Tryz.underlying27 hi hz0 .i64 .i64 (n : Int) (m : Int) (by omega) (by omega) (by rw [hz2]; omega) (by omega)
  rw [hM] at h
  simpa using h

/-- The first k of f, then 0. -/
def upTo (f : Nat → Int) (k : Nat) : Nat → Int := fun j => if j < k then f j else 0

theorem upTo_next (f : Nat → Int) (k : Nat) : (fun i => if i = k then f k else upTo f k i) = upTo f (k + 1) := by
  funext i
  unfold upTo
  by_cases h : i = k
  · subst h
    rw [if_pos rfl, if_pos (by omega)]
  · rw [if_neg h]
    by_cases h2 : i < k
    · rw [if_pos h2, if_pos (by omega)]
    · rw [if_neg h2, if_neg (by omega)]

theorem upTo_in (f : Nat → Int) {k j : Nat} (h : j < k) : upTo f k j = f j := if_pos h

end Go.Proofs.YthnahalboomkoaaGreat

/-
  Rows that are owned, carried from world to world.
-/
namespace Go.Proofs.YthnahalboomkoaaGreat
open Go.RowKit

theorem owns_on {w w' : World} {B e sz n : Nat} {v : Value} {xs : List Value} (h : w.ownsRow B e sz v n xs) (hb : Below w.heap.size w w') : w'.ownsRow B e sz v n xs := by
  refine ⟨h.1, ?_⟩
  rcases h.2 with h0 | ⟨g, cap, cur, hv, hB, hg, rest⟩
  · exact .inl h0
  · exact .inr ⟨g, cap, cur, hv, hB, (hb.block g (Array.getElem?_eq_some_iff.1 hg).1).trans hg, rest⟩

theorem owns_other {w w' : World} {B e sz n g : Nat} {v : Value} {xs : List Value} (h : w.ownsRow B e sz v n xs) (hoth : ∀ g' t cs, g ≠ g' → Blk w g' t cs → Blk w' g' t cs) (hg : g < B) : w'.ownsRow B e sz v n xs := by
  refine ⟨h.1, ?_⟩
  rcases h.2 with h0 | ⟨g1, cap, cur, hv, hB, hb, rest⟩
  · exact .inl h0
  · exact .inr ⟨g1, cap, cur, hv, hB, hoth g1 e cur (by omega) hb, rest⟩

end Go.Proofs.YthnahalboomkoaaGreat

/-
  Rows of numbers that are owned.
  (-DROP-: what the seat lacks is left out.)
-/
namespace Go.Proofs.YthnahalboomkoaaGreat
open Go.RowKit

/-- A row of numbers that is owned. -/
def zsV (l : List Int) : List Value := l.map (Value.int .i64)
def RowZs (B : Nat) (w : World) (v : Value) (l : List Int) : Prop := w.ownsRow B 3 1 v l.length (zsV l)
theorem zsV_append (a b : List Int) : zsV (a ++ b) = zsV a ++ zsV b := by simp [zsV]

theorem RowZs.ints {B : Nat} {w : World} {v : Value} {l : List Int} (h : RowZs B w v l) : ∃ a cp, v = .slice a l.length cp ∧ IntsAt w a l.length w.heap.size (fun j => l.getD j 0) := by
  rcases h.2 with ⟨rfl, h0⟩ | ⟨g, cp, cur, rfl, hg, hh, hrest⟩
  · exact ⟨none, 0, by rw [h0], fun j hj => by omega⟩
  · refine ⟨_, cp, rfl, fun j hj => ⟨g, 0, rfl, (Array.getElem?_eq_some_iff.1 hh).1, ?_⟩⟩
    have hc := h.cellAt j (by omega)
    rw [Nat.zero_add, hc]
    simp [zsV, hj]

/-- The first n of a row. -/
def zls (f : Nat → Int) (n : Nat) : List Int := (List.range n).map f
theorem zls_length (f : Nat → Int) (n : Nat) : (zls f n).length = n := by simp [zls]
theorem zls_at (f : Nat → Int) {n j : Nat} (h : j < n) : (zls f n).getD j 0 = f j := by simp [zls, h]
theorem zls_next (f : Nat → Int) (n : Nat) : zls f (n + 1) = zls f n ++ [f n] := by
  unfold zls
  rw [List.range_succ, List.map_append]
  rfl
theorem zls_getD (l : List Int) : zls (fun j => l.getD j 0) l.length = l := by
  apply List.ext_getElem
  · simp [zls]
  · intro i h1 h2
    simp [zls, h2]

theorem RowI.rowZ {w : World} {g n B : Nat} {f : Nat → Int} (h : RowI w g n f) (hB : B ≤ g) (hn : n ≤ 1048576) : RowZs B w (.slice (some ⟨g, 0, none⟩) n n) (zls f n) := by
  unfold RowZs
  rw [zls_length]
  refine ⟨by simp [zls, zsV], .inr ⟨g, n, ic f n, rfl, hB, h, Nat.le_refl _, by unfold maxLen; omega, by rw [ic_size, Nat.mul_one], ?_⟩⟩
  rw [Nat.mul_one, List.take_of_length_le (by simp [ic])]
  simp [ic, zls, zsV]

end Go.Proofs.YthnahalboomkoaaGreat

/-
  Worlds that differ in some blocks alone.
-/
namespace Go.Proofs.YthnahalboomkoaaGreat
open Go.RowKit

/-- All blocks but these are as they were; the streams are as they were. -/
structure Kps (S : Nat → Prop) (w w' : World) : Prop where
  os : w'.os = w.os
  tape : w'.tape = w.tape
  output : w'.output = w.output
  size : w.heap.size ≤ w'.heap.size
  block : ∀ k, k < w.heap.size → ¬ S k → w'.heap[k]? = w.heap[k]?

theorem Kps.refl (S : Nat → Prop) (w : World) : Kps S w w := ⟨rfl, rfl, rfl, Nat.le_refl _, fun _ _ _ => rfl⟩
theorem Kps.trans {S : Nat → Prop} {a b c : World} (h : Kps S a b) (k : Kps S b c) : Kps S a c :=
  ⟨k.os.trans h.os, k.tape.trans h.tape, k.output.trans h.output, Nat.le_trans h.size k.size, fun i hi hs => (k.block i (Nat.lt_of_lt_of_le hi h.size) hs).trans (h.block i hi hs)⟩
theorem Kps.more {S T : Nat → Prop} {a b : World} (h : Kps S a b) (hT : ∀ k, S k → T k) : Kps T a b :=
  ⟨h.os, h.tape, h.output, h.size, fun i hi ht => h.block i hi fun s => ht (hT i s)⟩
theorem Kps.of_below {S : Nat → Prop} {a b : World} (h : Below a.heap.size a b) : Kps S a b := ⟨h.os, h.tape, h.output, h.size, fun i hi _ => h.block i hi⟩
theorem Kps.drew {S : Nat → Prop} {a b : World} (h : Kps S a b) : Kps S a b.drew := ⟨h.os, h.tape, h.output, h.size, h.block⟩
theorem Kps.setCell {S : Nat → Prop} {a b : World} (h : Kps S a b) {p : Addr} (hp : S p.block) (u : Value) : Kps S a (b.setCell p u) :=
  h.trans ⟨rfl, rfl, rfl, by simp [World.setCell], fun k _ hs => Below.heap_setCell _ _ _ _ fun e => hs (e ▸ hp)⟩
theorem Kps.bel {S : Nat → Prop} {B : Nat} {w0 w w' : World} (h : Kps S w w') (hb : Below B w0 w) (hB : B ≤ w.heap.size) (hS : ∀ k, S k → B ≤ k) : Below B w0 w' :=
  ⟨h.os.trans hb.os, h.tape.trans hb.tape, h.output.trans hb.output, Nat.le_trans hb.size h.size, fun k hk => (h.block k (by omega) fun s => by have := hS k s; omega).trans (hb.block k hk)⟩
theorem Kps.blk {S : Nat → Prop} {w w' : World} (h : Kps S w w') {g : Nat} {t : TypeId} {cs : Array Value} (hb : Blk w g t cs) (hg : ¬ S g) : Blk w' g t cs := (h.block g hb.lt hg).trans hb
theorem Kps.row {S : Nat → Prop} {w w' : World} (h : Kps S w w') {B e sz n : Nat} {v : Value} {xs : List Value} (hr : w.ownsRow B e sz v n xs) (hv : ∀ k, v.ownBlock = some k → ¬ S k) : w'.ownsRow B e sz v n xs := by
  refine ⟨hr.1, ?_⟩
  rcases hr.2 with h0 | ⟨g, cap, cur, hve, hB, hg, rest⟩
  · exact .inl h0
  · exact .inr ⟨g, cap, cur, hve, hB, (h.block g (Array.getElem?_eq_some_iff.1 hg).1 (hv g (by rw [hve]; rfl))).trans hg, rest⟩

end Go.Proofs.YthnahalboomkoaaGreat

/-
  Lists of lists of numbers: what is read, what is owned.
-/
namespace Go.Proofs.YthnahalboomkoaaGreat
open Go.RowKit

/-- These blocks are as they were. -/
def Same (lo hi : Nat) (w w' : World) : Prop := ∀ k, lo ≤ k → k < hi → w'.heap[k]? = w.heap[k]?
theorem Same.of_below {lo hi c : Nat} {w w' : World} (h : Below c w w') (hc : hi ≤ c) : Same lo hi w w' := fun k _ h2 => h.block k (by omega)
theorem Same.of_kps {S : Nat → Prop} {lo hi : Nat} {w w' : World} (h : Kps S w w') (hc : hi ≤ w.heap.size) (hS : ∀ k, lo ≤ k → k < hi → ¬ S k) : Same lo hi w w' := fun k h1 h2 => h.block k (by omega) (hS k h1 h2)
theorem Same.of_grown {r : Option Nat} {lo hi : Nat} {w w' : World} (h : w.grownBy w' r) (hc : hi ≤ w.heap.size) (hS : ∀ k, lo ≤ k → k < hi → r ≠ some k) : Same lo hi w w' := fun k h1 h2 => h.block k (by omega) fun e => hS k h1 h2 e.symm
theorem Same.set {lo hi : Nat} (w : World) (p : Addr) (u : Value) (h : p.block < lo ∨ hi ≤ p.block) : Same lo hi w (w.setCell p u) := fun k h1 h2 => Below.heap_setCell _ _ _ _ (by omega)
theorem owns_same {w w' : World} {B e sz n lo hi : Nat} {v : Value} {xs : List Value} (h : w.ownsRow B e sz v n xs) (hs : Same lo hi w w') (hv : ∀ k, v.ownBlock = some k → lo ≤ k ∧ k < hi) : w'.ownsRow B e sz v n xs := by
  refine ⟨h.1, ?_⟩
  rcases h.2 with h0 | ⟨g, cap, cur, hve, hB, hg, rest⟩
  · exact .inl h0
  · have := hv g (by rw [hve]; rfl)
    exact .inr ⟨g, cap, cur, hve, hB, (hs g this.1 this.2).trans hg, rest⟩

/-- A list of numbers that is read; it lies below c. -/
def ZAt (w : World) (c : Nat) (v : Value) (l : List Int) : Prop := ∃ a cp, v = .slice a l.length cp ∧ IntsAt w a l.length c (fun j => l.getD j 0)
theorem ZAt.on {w w1 : World} {c : Nat} {v : Value} {l : List Int} (h : ZAt w c v l) (hb : Below c w w1) : ZAt w1 c v l := by
  obtain ⟨a, cp, h1, h2⟩ := h
  exact ⟨a, cp, h1, h2.on hb⟩
theorem ZAt.wide {w : World} {c d : Nat} {v : Value} {l : List Int} (h : ZAt w c v l) (hd : c ≤ d) : ZAt w d v l := by
  obtain ⟨a, cp, h1, h2⟩ := h
  exact ⟨a, cp, h1, h2.wide hd⟩
theorem ZAt.of {w : World} {c n cp : Nat} {a : Option Addr} {f : Nat → Int} (h : IntsAt w a n c f) : ZAt w c (.slice a n cp) (zls f n) := by
  refine ⟨a, cp, by rw [zls_length], ?_⟩
  rw [zls_length]
  intro j hj
  obtain ⟨b, off, h1, h2, h3⟩ := h j hj
  exact ⟨b, off, h1, h2, by rw [h3]; show _ = some (Value.int .i64 ((zls f n).getD j 0)); rw [zls_at f hj]⟩

/-- A list of numbers that is owned: its block is one of these. -/
def ZOwn (lo hi : Nat) (w : World) (v : Value) (l : List Int) : Prop := RowZs lo w v l ∧ ∀ k, v.ownBlock = some k → k < hi
theorem ZOwn.in {lo hi : Nat} {w : World} {v : Value} {l : List Int} (h : ZOwn lo hi w v l) : ∀ k, v.ownBlock = some k → lo ≤ k ∧ k < hi := fun k hk => ⟨(h.1.lt k hk).1, h.2 k hk⟩
theorem ZOwn.same {lo hi : Nat} {w w' : World} {v : Value} {l : List Int} (h : ZOwn lo hi w v l) (hs : Same lo hi w w') : ZOwn lo hi w' v l := ⟨owns_same h.1 hs h.in, h.2⟩
theorem owns_low {w : World} {B B' e sz n : Nat} {v : Value} {xs : List Value} (h : w.ownsRow B e sz v n xs) (hB : B' ≤ B) : w.ownsRow B' e sz v n xs := by
  refine ⟨h.1, ?_⟩
  rcases h.2 with h0 | ⟨g, cap, cur, hve, hg, rest⟩
  · exact .inl h0
  · exact .inr ⟨g, cap, cur, hve, by omega, rest⟩
theorem ZOwn.wide {lo hi lo' hi' : Nat} {w : World} {v : Value} {l : List Int} (h : ZOwn lo hi w v l) (h1 : lo' ≤ lo) (h2 : hi ≤ hi') : ZOwn lo' hi' w v l := ⟨owns_low h.1 h1, fun k hk => by have := h.2 k hk; omega⟩
theorem ZOwn.of {lo : Nat} {w : World} {v : Value} {l : List Int} (h : RowZs lo w v l) : ZOwn lo w.heap.size w v l := ⟨h, fun k hk => (h.lt k hk).2⟩
theorem ZOwn.at {lo hi : Nat} {w : World} {v : Value} {l : List Int} (h : ZOwn lo hi w v l) : ZAt w hi v l := by
  rcases h.1.2 with ⟨rfl, h0⟩ | ⟨g, cp, cur, rfl, hg, hh, hrest⟩
  · exact ⟨none, 0, by rw [h0], fun j hj => by omega⟩
  · refine ⟨_, cp, rfl, fun j hj => ⟨g, 0, rfl, h.2 g rfl, ?_⟩⟩
    have hc := World.ownsRow.cellAt h.1 j (by omega)
    rw [Nat.zero_add, hc]
    simp [zsV, hj]
theorem ZOwn.on {lo hi c : Nat} {w w' : World} {v : Value} {l : List Int} (h : ZOwn lo hi w v l) (hb : Below c w w') (hc : hi ≤ c) : ZOwn lo hi w' v l := h.same (Same.of_below hb hc)

/-- A list of structs that hold lists of numbers, sz each; it lies below c. -/
def NAt (sz : Nat) (w : World) (c : Nat) (v : Value) (n : Nat) (ls : List (List Int)) : Prop :=
  ls.length = n * sz ∧ ∃ a cp, v = .slice a n cp ∧ ∀ j, j < n * sz → ∃ b off u, a = some ⟨b, off, none⟩ ∧ b < c ∧ w.cell? ⟨b, off + j, none⟩ = some u ∧ ZAt w c u (ls.getD j [])
theorem NAt.on {sz : Nat} {w w1 : World} {c n : Nat} {v : Value} {ls : List (List Int)} (h : NAt sz w c v n ls) (hb : Below c w w1) : NAt sz w1 c v n ls := by
  obtain ⟨h0, a, cp, h1, h2⟩ := h
  refine ⟨h0, a, cp, h1, fun j hj => ?_⟩
  obtain ⟨b, off, u, h3, h4, h5, h6⟩ := h2 j hj
  exact ⟨b, off, u, h3, h4, (hb.cell (p := ⟨b, off + j, none⟩) h4).trans h5, h6.on hb⟩
theorem NAt.wide {sz : Nat} {w : World} {c d n : Nat} {v : Value} {ls : List (List Int)} (h : NAt sz w c v n ls) (hd : c ≤ d) : NAt sz w d v n ls := by
  obtain ⟨h0, a, cp, h1, h2⟩ := h
  refine ⟨h0, a, cp, h1, fun j hj => ?_⟩
  obtain ⟨b, off, u, h3, h4, h5, h6⟩ := h2 j hj
  exact ⟨b, off, u, h3, by omega, h5, h6.wide hd⟩

/-- A list of structs that hold lists of numbers, sz each, owned, with the cells named: no two lie in one block. -/
structure NOwnV (sz e lo hi : Nat) (w : World) (v : Value) (n : Nat) (vs : List Value) (ls : List (List Int)) : Prop where
  row : w.ownsRow lo e sz v n vs
  len : ls.length = n * sz
  top : ∀ k, v.ownBlock = some k → k < hi
  each : ∀ j, j < n * sz → ZOwn lo hi w (vs.getD j undef) (ls.getD j [])
  apart : ∀ i j k, i < n * sz → j < n * sz → i ≠ j → (vs.getD i undef).ownBlock = some k → (vs.getD j undef).ownBlock ≠ some k
  off : ∀ j k, j < n * sz → (vs.getD j undef).ownBlock = some k → v.ownBlock ≠ some k
theorem NOwnV.vlen {sz e lo hi n : Nat} {w : World} {v : Value} {vs : List Value} {ls : List (List Int)} (h : NOwnV sz e lo hi w v n vs ls) : vs.length = n * sz := h.row.1
theorem NOwnV.same {sz e lo hi n : Nat} {w w' : World} {v : Value} {vs : List Value} {ls : List (List Int)} (h : NOwnV sz e lo hi w v n vs ls) (hs : Same lo hi w w') : NOwnV sz e lo hi w' v n vs ls :=
  ⟨owns_same h.row hs (fun k hk => ⟨(h.row.lt k hk).1, h.top k hk⟩), h.len, h.top, fun j hj => (h.each j hj).same hs, h.apart, h.off⟩
theorem NOwnV.wide {sz e lo hi hi' n : Nat} {w : World} {v : Value} {vs : List Value} {ls : List (List Int)} (h : NOwnV sz e lo hi w v n vs ls) (h2 : hi ≤ hi') : NOwnV sz e lo hi' w v n vs ls :=
  ⟨h.row, h.len, fun k hk => by have := h.top k hk; omega, fun j hj => (h.each j hj).wide (Nat.le_refl _) h2, h.apart, h.off⟩
theorem NOwnV.at {sz e lo hi n : Nat} {w : World} {v : Value} {vs : List Value} {ls : List (List Int)} (h : NOwnV sz e lo hi w v n vs ls) : NAt sz w hi v n ls := by
  refine ⟨h.len, ?_⟩
  rcases h.row.2 with ⟨rfl, h0⟩ | ⟨g, cp, cur, rfl, hg, hh, hrest⟩
  · exact ⟨none, 0, by rw [h0], fun j hj => by rw [h0] at hj; omega⟩
  · refine ⟨_, cp, rfl, fun j hj => ⟨g, 0, vs.getD j undef, rfl, h.top g rfl, ?_, (h.each j hj).at⟩⟩
    have hl := h.vlen
    rw [Nat.zero_add, World.ownsRow.cellAt h.row j hj, List.getElem?_eq_getElem (by omega)]
    simp [show j < vs.length by omega]
theorem NOwnV.cell {sz e lo hi n g cp : Nat} {w : World} {vs : List Value} {ls : List (List Int)} (h : NOwnV sz e lo hi w (.slice (some ⟨g, 0, none⟩) n cp) n vs ls) {j : Nat} (hj : j < n * sz) : w.cell? ⟨g, j, none⟩ = some (vs.getD j undef) := by
  have hl := h.vlen
  rw [World.ownsRow.cellAt h.row j hj, List.getElem?_eq_getElem (by omega)]
  simp [show j < vs.length by omega]

theorem getD_set_same {α : Type} (l : List α) (j : Nat) (x d : α) (h : j < l.length) : (l.set j x).getD j d = x := by simp [h]
theorem getD_set_other {α : Type} (l : List α) (i j : Nat) (x d : α) (h : i ≠ j) : (l.set i x).getD j d = l.getD j d := by simp [h]

/-- One of the lists is another one, in its own block. -/
theorem NOwnV.turn {sz e lo hi n : Nat} {w w' : World} {v : Value} {vs : List Value} {ls : List (List Int)} {j : Nat} {l : List Int} (h : NOwnV sz e lo hi w v n vs ls) (hj : j < n * sz) (hr : RowZs lo w' (vs.getD j undef) l) (hk : Kps (fun b => (vs.getD j undef).ownBlock = some b) w w') : NOwnV sz e lo hi w' v n vs (ls.set j l) := by
  have hl := h.len
  refine ⟨hk.row h.row (fun k hk q => h.off j k hj q hk), by simpa using hl, h.top, fun i hi => ?_, h.apart, h.off⟩
  by_cases hij : j = i
  · subst hij
    rw [getD_set_same _ _ _ _ (by omega)]
    exact ⟨hr, (h.each j hj).2⟩
  · rw [getD_set_other _ _ _ _ _ hij]
    exact ⟨hk.row (h.each i hi).1 (fun k hk q => h.apart j i k hj hi hij q hk), (h.each i hi).2⟩

/-- A list that lies behind all of it is put into a cell. -/
theorem NOwnV.put {sz e lo hi hi' n g cp : Nat} {w : World} {vs : List Value} {ls : List (List Int)} {j : Nat} {l : List Int} {u : Value} (h : NOwnV sz e lo hi w (.slice (some ⟨g, 0, none⟩) n cp) n vs ls) (hj : j < n * sz) (hu : ZOwn hi hi' w u l) (hh : hi ≤ hi') (hlo : lo ≤ hi) : NOwnV sz e lo hi' (w.setCell ⟨g, j, none⟩ u) (.slice (some ⟨g, 0, none⟩) n cp) n (vs.set j u) (ls.set j l) := by
  have hl := h.len
  have hv := h.vlen
  have hg : g < hi := h.top g rfl
  refine ⟨(World.ownsRow.stored h.row j u).1, by simpa using hl, fun k hk => by have := h.top k hk; omega, fun i hi' => ?_, fun i i2 k h1 h2 h3 h4 => ?_, fun i k h1 h2 => ?_⟩
  · by_cases hij : j = i
    · subst hij
      rw [getD_set_same _ _ _ _ (by omega), getD_set_same _ _ _ _ (by omega)]
      exact (hu.same (Same.set w ⟨g, j, none⟩ u (.inl hg))).wide hlo (Nat.le_refl _)
    · rw [getD_set_other _ _ _ _ _ hij, getD_set_other _ _ _ _ _ hij]
      have h0 := h.each i hi'
      refine ⟨World.ownsRow.kept h0.1 (World.ownsRow.stored h.row j u).2 ?_, fun k hk => by have := h0.2 k hk; omega⟩
      by_cases hn : (vs.getD i undef).ownBlock = some g
      · exact absurd rfl (h.off i g hi' hn)
      · exact .inr hn
  · by_cases hi1 : j = i
    · subst hi1
      rw [getD_set_same _ _ _ _ (by omega)] at h4
      rw [getD_set_other _ _ _ _ _ h3]
      intro h5
      have h6 := hu.in k h4
      have h7 := (h.each i2 h2).in k h5
      omega
    · rw [getD_set_other _ _ _ _ _ hi1] at h4
      by_cases hi2 : j = i2
      · subst hi2
        rw [getD_set_same _ _ _ _ (by omega)]
        intro h5
        have h6 := hu.in k h5
        have h7 := (h.each i h1).in k h4
        omega
      · rw [getD_set_other _ _ _ _ _ hi2]
        exact h.apart i i2 k h1 h2 h3 h4
  · by_cases hi1 : j = i
    · subst hi1
      rw [getD_set_same _ _ _ _ (by omega)] at h2
      intro h5
      have h6 := hu.in k h2
      have h7 := h.top k h5
      omega
    · rw [getD_set_other _ _ _ _ _ hi1] at h2
      exact h.off i k h1 h2

theorem getD_app_left {α : Type} (a b : List α) (j : Nat) (d : α) (h : j < a.length) : (a ++ b).getD j d = a.getD j d := by
  rw [List.getD_eq_getElem?_getD, List.getElem?_append_left h, List.getD_eq_getElem?_getD]
theorem getD_app_right {α : Type} (a b : List α) (j : Nat) (d : α) (h : a.length ≤ j) : (a ++ b).getD j d = b.getD (j - a.length) d := by
  rw [List.getD_eq_getElem?_getD, List.getElem?_append_right h, List.getD_eq_getElem?_getD]

/-- So many more structs, of lists that lie behind all of it and below the new end, are put behind it. -/
theorem NOwnV.appM {sz e lo hi hi' n m : Nat} {w w' : World} {v v' : Value} {vs us : List Value} {ls ns : List (List Int)} (h : NOwnV sz e lo hi w v n vs ls) (hr : w'.ownsRow lo e sz v' (n + m) (vs ++ us)) (hg : w.grownBy w' v.ownBlock) (hv : v'.ownBlock = v.ownBlock ∨ v'.ownBlock = some w.heap.size) (hn : ns.length = m * sz)
    (he : ∀ j, j < m * sz → ZOwn hi w.heap.size w (us.getD j undef) (ns.getD j [])) (ha : ∀ i j k, i < m * sz → j < m * sz → i ≠ j → (us.getD i undef).ownBlock = some k → (us.getD j undef).ownBlock ≠ some k) (hw : hi ≤ w.heap.size) (hlo : lo ≤ hi) (hh : w.heap.size ≤ hi') (hb : ∀ k, v'.ownBlock = some k → k < hi') : NOwnV sz e lo hi' w' v' (n + m) (vs ++ us) (ls ++ ns) := by
  have hl := h.len
  have hvl := h.vlen
  have hm : (n + m) * sz = n * sz + m * sz := Nat.add_mul _ _ _
  have hold : ∀ j, j < n * sz → ∀ k, (vs.getD j undef).ownBlock = some k → v.ownBlock ≠ some k := fun j hj k hk => h.off j k hj hk
  have hnew : ∀ j, j < m * sz → ∀ k, (us.getD j undef).ownBlock = some k → hi ≤ k ∧ k < w.heap.size := fun j hj k hk => (he j hj).in k hk
  have hin : ∀ j, j < n * sz → ∀ k, (vs.getD j undef).ownBlock = some k → lo ≤ k ∧ k < hi := fun j hj k hk => (h.each j hj).in k hk
  refine ⟨hr, by rw [List.length_append]; omega, hb, fun j hj => ?_, fun i j k h1 h2 h3 h4 => ?_, fun j k h1 h2 => ?_⟩
  · by_cases hj1 : j < n * sz
    · rw [getD_app_left _ _ _ _ (by omega), getD_app_left _ _ _ _ (by omega)]
      have h0 := h.each j hj1
      refine ⟨World.ownsRow.kept h0.1 hg ?_, fun k hk => by have := h0.2 k hk; omega⟩
      cases ho : (vs.getD j undef).ownBlock with
      | none => exact .inl rfl
      | some k => exact .inr fun e => hold j hj1 k ho e.symm
    · rw [getD_app_right _ _ _ _ (by omega), getD_app_right _ _ _ _ (by omega), hvl, hl]
      have h0 := he (j - n * sz) (by omega)
      refine ⟨owns_low (World.ownsRow.kept h0.1 hg ?_) hlo, fun k hk => by have := h0.2 k hk; omega⟩
      cases ho : (us.getD (j - n * sz) undef).ownBlock with
      | none => exact .inl rfl
      | some k =>
        refine .inr fun e => ?_
        have h5 := hnew _ (by omega) k ho
        have h6 := h.top k e.symm
        omega
  · by_cases hi1 : i < n * sz
    · rw [getD_app_left _ _ _ _ (by omega)] at h4
      by_cases hj1 : j < n * sz
      · rw [getD_app_left _ _ _ _ (by omega)]
        exact h.apart i j k hi1 hj1 h3 h4
      · rw [getD_app_right _ _ _ _ (by omega), hvl]
        intro h5
        have h6 := hin i hi1 k h4
        have h7 := hnew _ (by omega) k h5
        omega
    · rw [getD_app_right _ _ _ _ (by omega), hvl] at h4
      by_cases hj1 : j < n * sz
      · rw [getD_app_left _ _ _ _ (by omega)]
        intro h5
        have h6 := hin j hj1 k h5
        have h7 := hnew _ (by omega) k h4
        omega
      · rw [getD_app_right _ _ _ _ (by omega), hvl]
        exact ha _ _ k (by omega) (by omega) (by omega) h4
  · have hlt : k < w.heap.size := by
      by_cases hj1 : j < n * sz
      · rw [getD_app_left _ _ _ _ (by omega)] at h2
        have := hin j hj1 k h2
        omega
      · rw [getD_app_right _ _ _ _ (by omega), hvl] at h2
        have := hnew _ (by omega) k h2
        omega
    rcases hv with e | e
    · rw [e]
      by_cases hj1 : j < n * sz
      · rw [getD_app_left _ _ _ _ (by omega)] at h2
        exact hold j hj1 k h2
      · rw [getD_app_right _ _ _ _ (by omega), hvl] at h2
        intro h5
        have h6 := hnew _ (by omega) k h2
        have h7 := h.top k h5
        omega
    · rw [e]
      intro h5
      injection h5 with h5
      omega

/-- One more struct, of lists that lie behind all of it and below the new end, is put behind it. -/
theorem NOwnV.app {sz e lo hi hi' n : Nat} {w w' : World} {v v' : Value} {vs us : List Value} {ls ns : List (List Int)} (h : NOwnV sz e lo hi w v n vs ls) (hr : w'.ownsRow lo e sz v' (n + 1) (vs ++ us)) (hg : w.grownBy w' v.ownBlock) (hv : v'.ownBlock = v.ownBlock ∨ v'.ownBlock = some w.heap.size) (hn : ns.length = sz)
    (he : ∀ j, j < sz → ZOwn hi w.heap.size w (us.getD j undef) (ns.getD j [])) (ha : ∀ i j k, i < sz → j < sz → i ≠ j → (us.getD i undef).ownBlock = some k → (us.getD j undef).ownBlock ≠ some k) (hw : hi ≤ w.heap.size) (hlo : lo ≤ hi) (hh : w.heap.size ≤ hi') (hb : ∀ k, v'.ownBlock = some k → k < hi') : NOwnV sz e lo hi' w' v' (n + 1) (vs ++ us) (ls ++ ns) :=
  h.appM hr hg hv (by rw [Nat.one_mul]; exact hn) (fun j hj => he j (by omega)) (fun i j k h1 h2 => ha i j k (by omega) (by omega)) hw hlo hh hb

/-- How long a list is. -/
def slLen : Value → Nat
  | .slice _ n _ => n
  | _ => 0

/-- The numbers of so many lists. -/
def tot : List (List Int) → Nat
  | [] => 0
  | l :: t => l.length + tot t
theorem tot_app : ∀ a b : List (List Int), tot (a ++ b) = tot a + tot b
  | [], b => by show tot b = 0 + tot b; omega
  | l :: t, b => by show l.length + tot (t ++ b) = l.length + tot t + tot b; rw [tot_app t b]; omega
theorem tot_take_next (ls : List (List Int)) {j : Nat} (h : j < ls.length) : tot (ls.take (j + 1)) = tot (ls.take j) + (ls.getD j []).length := by
  rw [List.take_succ_eq_append_getElem h, tot_app]
  have e : ls.getD j [] = ls[j] := by simp [h]
  rw [e]
  rfl
theorem tot_take_le (ls : List (List Int)) (j : Nat) : tot (ls.take j) ≤ tot ls := by
  have h := tot_app (ls.take j) (ls.drop j)
  rw [List.take_append_drop] at h
  omega
theorem tot_at_le (ls : List (List Int)) {j : Nat} (h : j < ls.length) : (ls.getD j []).length ≤ tot ls := by
  have h1 := tot_take_next ls h
  have h2 := tot_take_le ls (j + 1)
  omega

end Go.Proofs.YthnahalboomkoaaGreat

/-
  Scalars, numbers modulo 1009: plain mathematics.
-/
namespace Go.Proofs.YthnahalboomkoaaGreat

/-- A number modulo the size of the group. -/
def sca (x : Int) : Int := x % 1009
theorem sca_nonneg (x : Int) : 0 ≤ sca x := Int.emod_nonneg _ (by decide)
theorem sca_lt (x : Int) : sca x < 1009 := Int.emod_lt_of_pos _ (by decide)
theorem sca_sca (x : Int) : sca (sca x) = sca x := Int.emod_emod_of_dvd _ (Int.dvd_refl _)
theorem sca_small {x : Int} (h : 0 ≤ x) (h' : x < 1009) : sca x = x := Int.emod_eq_of_lt h h'

/-- The rest that Go makes, and what is put to it below 0. -/
theorem tmod_neg_sca {n : Int} (h : Int.tmod n 1009 < 0) : Int.tmod n 1009 + 1009 = sca n := by
  unfold sca
  rcases Int.lt_or_le n 0 with hn | hn
  · have e : Int.tmod n 1009 = -((-n) % 1009) := by
      have := Int.neg_tmod (a := -n) (b := 1009)
      rw [Int.neg_neg] at this
      rw [this, Int.tmod_eq_emod_of_nonneg (by omega)]
    rw [e] at h ⊢
    omega
  · rw [Int.tmod_eq_emod_of_nonneg hn] at h
    omega

theorem tmod_nonneg_sca {n : Int} (h : ¬ Int.tmod n 1009 < 0) : Int.tmod n 1009 = sca n := by
  unfold sca
  rcases Int.lt_or_le n 0 with hn | hn
  · have e : Int.tmod n 1009 = -((-n) % 1009) := by
      have := Int.neg_tmod (a := -n) (b := 1009)
      rw [Int.neg_neg] at this
      rw [this, Int.tmod_eq_emod_of_nonneg (by omega)]
    rw [e] at h ⊢
    omega
  · rw [Int.tmod_eq_emod_of_nonneg hn]

theorem tmod_bounds_sca (n : Int) : -1009 ≤ Int.tmod n 1009 ∧ Int.tmod n 1009 < 1009 := by
  by_cases h : Int.tmod n 1009 < 0
  · have := tmod_neg_sca h; have := sca_nonneg n; omega
  · have := tmod_nonneg_sca h; have := sca_lt n; omega

def scAdd (a b : Int) : Int := sca (sca a + sca b)
def scMul (a b : Int) : Int := sca (sca a * sca b)
def scNeg (a : Int) : Int := sca (-sca a)

theorem scAdd_eq (a b : Int) : scAdd a b = sca (a + b) := by unfold scAdd sca; simp
theorem scMul_eq (a b : Int) : scMul a b = sca (a * b) := by unfold scMul sca; simp [← Int.mul_emod]
theorem sca_neg_sca (a : Int) : sca (-sca a) = sca (-a) := by unfold sca; omega
theorem scNeg_eq (a : Int) : scNeg a = sca (-a) := sca_neg_sca a

theorem sca_add_sca (a b : Int) : sca (sca a + sca b) = sca (a + b) := scAdd_eq a b
theorem sca_add_left (a b : Int) : sca (sca a + b) = sca (a + b) := by unfold sca; simp
theorem sca_add_right (a b : Int) : sca (a + sca b) = sca (a + b) := by unfold sca; simp
theorem sca_mul_left (a b : Int) : sca (sca a * b) = sca (a * b) := by unfold sca; simp [Int.mul_emod]
theorem sca_mul_right (a b : Int) : sca (a * sca b) = sca (a * b) := by unfold sca; simp [Int.mul_emod]

theorem sca_prod (a b : Int) : 0 ≤ sca a * sca b ∧ sca a * sca b ≤ 1016064 := by
  have a0 := sca_nonneg a
  have a1 := sca_lt a
  have b0 := sca_nonneg b
  have b1 := sca_lt b
  have h := Int.mul_le_mul (show sca a ≤ 1008 by omega) (show sca b ≤ 1008 by omega) b0 (by decide)
  have h0 := Int.mul_nonneg a0 b0
  omega

/-- A scalar as one that is not below 0. -/
def scn (a : Int) : Nat := (sca a).toNat
theorem scn_lt (a : Int) : scn a < 1009 := by have := sca_lt a; have := sca_nonneg a; unfold scn; omega
theorem scn_cast (a : Int) : ((scn a : Nat) : Int) = sca a := by have := sca_nonneg a; unfold scn; omega
theorem scn_small {n : Nat} (h : n < 1009) : scn (n : Int) = n := by unfold scn; rw [sca_small (by omega) (by omega)]; simp

theorem scMul_nat (a b : Int) : scMul a b = ((scn a * scn b % 1009 : Nat) : Int) := by
  unfold scMul
  rw [← scn_cast a, ← scn_cast b]
  unfold sca
  omega

theorem scm_left (a b : Nat) : a % 1009 * b % 1009 = a * b % 1009 := by rw [Nat.mul_mod (a % 1009), Nat.mod_mod, ← Nat.mul_mod]
theorem scm_right (a b : Nat) : a * (b % 1009) % 1009 = a * b % 1009 := by rw [Nat.mul_comm, scm_left, Nat.mul_comm]
theorem scm_pow (a n : Nat) : (a % 1009) ^ n % 1009 = a ^ n % 1009 := (Nat.pow_mod a n 1009).symm

/-- A round of the power's loop with an odd number. -/
theorem sca_odd (x b n : Nat) (h : n % 2 = 1) : (x * b % 1009) * (b * b % 1009) ^ (n / 2) % 1009 = x * b ^ n % 1009 := by
  rw [scm_left, ← scm_right, scm_pow, scm_right]
  have e : b ^ n = b * (b * b) ^ (n / 2) := by
    rw [← Nat.pow_two, ← Nat.pow_mul, ← Nat.pow_succ']
    congr 1; omega
  rw [e, Nat.mul_assoc]

/-- A round of it with an even one. -/
theorem sca_even (x b n : Nat) (h : n % 2 = 0) : x * (b * b % 1009) ^ (n / 2) % 1009 = x * b ^ n % 1009 := by
  rw [← scm_right, scm_pow, scm_right]
  have e : b ^ n = (b * b) ^ (n / 2) := by
    rw [← Nat.pow_two, ← Nat.pow_mul]
    congr 1; omega
  rw [e]

/-- The exponent of what makes 1, by name. -/
def eS : Nat := 1007
def scInv (a : Int) : Int := ((scn a ^ eS % 1009 : Nat) : Int)

/-- What stands at a place of two lists, all together: of the first n. -/
def dotN (f g : Nat → Int) : Nat → Int
  | 0 => 0
  | n + 1 => scAdd (dotN f g n) (scMul (f n) (g n))

def ssq (r : Nat) : Nat := Nat.mod (Nat.mul r r) 1009
def ssm (a r : Nat) : Nat := Nat.mod (Nat.mul (Nat.mod (Nat.mul r r) 1009) a) 1009
/-- A number to 1007. -/
def sinv (a : Nat) : Nat := ssm a (ssm a (ssm a (ssm a (ssq (ssm a (ssm a (ssm a (ssm a a))))))))

theorem ssq_pow {a r k : Nat} (h : r = a ^ k % 1009) : ssq r = a ^ (2 * k) % 1009 := by
  show r * r % 1009 = _
  rw [h, scm_left, scm_right, ← Nat.pow_add]
  congr 2; omega

theorem ssm_pow {a r k : Nat} (h : r = a ^ k % 1009) : ssm a r = a ^ (2 * k + 1) % 1009 := by
  show r * r % 1009 * a % 1009 = _
  rw [show r * r % 1009 = a ^ (2 * k) % 1009 from ssq_pow h, scm_left, ← Nat.pow_succ]

theorem sinv_pow {a : Nat} (h : a < 1009) : sinv a = a ^ eS % 1009 := by
  have h0 : a = a ^ 1 % 1009 := by rw [Nat.pow_one, Nat.mod_eq_of_lt h]
  have h1 := ssm_pow (ssm_pow (ssm_pow (ssm_pow h0)))
  have h2 := ssm_pow (ssm_pow (ssm_pow (ssm_pow (ssq_pow h1))))
  generalize he : 2 * (2 * (2 * (2 * (2 * (2 * (2 * (2 * (2 * 1 + 1) + 1) + 1) + 1)) + 1) + 1) + 1) + 1 = k at h2
  have hk : k = eS := by rw [← he]; rfl
  rw [← hk]; exact h2

def sgood (a : Nat) : Bool := Nat.beq (Nat.mod (Nat.mul a (sinv a)) 1009) 1 || Nat.beq (Nat.mod a 1009) 0
def sgoods : Nat → Nat → Bool
  | 0, lo => sgood lo
  | k + 1, lo => sgoods k lo && sgoods k (Nat.add lo (Nat.pow 2 k))

theorem sgoods_all : ∀ (k lo : Nat), sgoods k lo = true → ∀ a, lo ≤ a → a < lo + 2 ^ k → sgood a = true
  | 0, lo, h, a, h0, h1 => by
    have : a = lo := by simp at h1; omega
    rw [this]; exact h
  | k + 1, lo, h, a, h0, h1 => by
    simp only [sgoods, Bool.and_eq_true] at h
    by_cases hc : a < lo + 2 ^ k
    · exact sgoods_all k lo h.1 a h0 hc
    · refine sgoods_all k (lo + 2 ^ k) h.2 a (by omega) ?_
      rw [Nat.pow_succ] at h1; omega

set_option maxRecDepth 100000 in
theorem sgoods_here : sgoods 10 0 = true := by decide +kernel

/-- What is not 0 and its inverse make 1. -/
theorem sca_inv_nat {a : Nat} (h0 : 0 < a) (h : a < 1009) : a * (a ^ eS % 1009) % 1009 = 1 := by
  have g := sgoods_all 10 0 sgoods_here a (Nat.zero_le _) (by omega)
  unfold sgood at g
  simp only [Bool.or_eq_true, Nat.beq_eq] at g
  rw [← sinv_pow h]
  rcases g with g | g
  · exact g
  · have g' : a % 1009 = 0 := g
    omega

theorem scMul_inv {a : Int} (h0 : 0 < a) (h : a < 1009) : scMul a (scInv a) = 1 := by
  have e : scn a = a.toNat := by unfold scn; rw [sca_small (by omega) h]
  have hl : scn a ^ eS % 1009 < 1009 := Nat.mod_lt _ (by decide)
  rw [scMul_nat]
  unfold scInv
  rw [scn_small hl, sca_inv_nat (by omega) (by omega)]
  rfl

end Go.Proofs.YthnahalboomkoaaGreat
