/-
  Texts of one's own, joined.
-/
import Derived.Test.YtmpjnabadplbjaaOrd

/-
  A region that draws its order, where two operations are ready at once: each way, to one end.
-/
namespace Go.Proofs.Ytmpjnabadplbjaa
open Go.RowKit

section
variable {P : Program} {ops : Array Oper} {S : World → Prop} {Q : Exit → Act → World → Prop} {R : Act → World → Prop}

/-- An operation with a value that is told. -/
theorem ord_told {k : Nat} {r : List (Nat × Bool)} {a : Act} {w : World} {o : Oper} (v : Value) (ho : ops[k]? = some o) (hy : YieldsIf P ops S o v a)
    (h : ∀ K : Act → Prop, (∀ a, wpOrd P ops Q S R r a w → K a) → K (a.put o.dst v)) : wpOrd P ops Q S R ((k, false) :: r) a w :=
  ⟨o, v, ho, hy, h _ (fun _ h => h)⟩

/-- Two chains, i then i', and j: in whatever order, to one end. -/
theorem anyH_fork3 {n i i' j : Nat} {L0 : Array Bool} {a : Act} {w : World} {F : Nat → Nat → Act} (G : Nat → Nat → World → Prop) (L3 : Array Bool)
    (hB : (Region.noSelect ops && decide (Region.ready .any ops L0 = [i, j]) && decide (Region.ready .any ops (L0.setIfInBounds i true) = [i', j]) && decide (ordTo ops [(j, true)] ((L0.setIfInBounds i true).setIfInBounds i' true) = some L3) && decide (ordTo ops [(i', true)] ((L0.setIfInBounds i true).setIfInBounds j true) = some L3) && decide (ordTo ops [(i, true), (i', true)] (L0.setIfInBounds j true) = some L3)) = true)
    (h1 : wpOrd P ops Q S (fun a' w' => S w' ∧ wpOrd P ops Q S (fun a' w' => ∃ g1 g2, a' = F g1 g2 ∧ G g1 g2 w') [(i', true), (j, true)] a' w' ∧ wpOrd P ops Q S (fun a' w' => ∃ g1 g2, a' = F g1 g2 ∧ G g1 g2 w') [(j, true), (i', true)] a' w') [(i, true)] a w)
    (h2 : wpOrd P ops Q S (fun a' w' => ∃ g1 g2, a' = F g1 g2 ∧ G g1 g2 w') [(j, true), (i, true), (i', true)] a w)
    (hK : ∀ g1 g2 w', G g1 g2 w' → wpAnyH P .any ops (NoPanic Q) S n L3 (F g1 g2) w') : wpAnyH P .any ops (NoPanic Q) S (n + 3) L0 a w := by
  simp only [Bool.and_eq_true, decide_eq_true_eq] at hB
  obtain ⟨⟨⟨⟨⟨hs, h0⟩, hi⟩, hij⟩, hji⟩, hj⟩ := hB
  have up : ∀ (order : List (Nat × Bool)) (a : Act) (w : World), wpOrd P ops Q S (fun a' w' => ∃ g1 g2, a' = F g1 g2 ∧ G g1 g2 w') order a w → wpOrd P ops Q S (fun a w => wpAnyH P .any ops (NoPanic Q) S n L3 a w) order a w := by
    intro order
    induction order with
    | nil =>
      rintro a w ⟨g1, g2, rfl, hG⟩
      exact hK g1 g2 w hG
    | cons x r ih =>
      obtain ⟨k, b⟩ := x
      cases b
      · rintro a w ⟨o, v, ho, hy, hr⟩
        exact ⟨o, v, ho, hy, ih _ _ hr⟩
      · intro a w h
        exact wpOp_mono (fun a' w' ⟨h1, h2⟩ => ⟨h1, ih _ _ h2⟩) h
  refine wpAnyH_all h0 (by simp) fun k hk => ?_
  simp only [List.mem_cons, List.not_mem_nil, or_false] at hk
  rcases hk with rfl | rfl
  · refine wpOp_mono (fun a' w' ⟨hS, _, ha, hb⟩ => ⟨hS, ?_⟩) h1
    refine wpAnyH_all hi (by simp) fun k' hk' => ?_
    simp only [List.mem_cons, List.not_mem_nil, or_false] at hk'
    rcases hk' with rfl | rfl
    · exact wpOp_mono (fun a2 w2 ⟨hS2, h⟩ => ⟨hS2, anyH_of_to hs [(_, true)] n _ _ a2 w2 hij hS2 (up _ _ _ h)⟩) ha
    · exact wpOp_mono (fun a2 w2 ⟨hS2, h⟩ => ⟨hS2, anyH_of_to hs [(_, true)] n _ _ a2 w2 hji hS2 (up _ _ _ h)⟩) hb
  · exact wpOp_mono (fun a2 w2 ⟨hS2, h⟩ => ⟨hS2, anyH_of_to hs [(_, true), (_, true)] n _ _ a2 w2 hj hS2 (up _ _ _ h)⟩) h2

end
end Go.Proofs.Ytmpjnabadplbjaa

/-
  A store into a struct's block in a region that draws its order: all other blocks are told. Two chains beside one another, with three values at their end.
-/
namespace Go.Proofs.Ytmpjnabadplbjaa
open Go.RowKit

section
variable {P : Program} {ops : Array Oper} {S : World → Prop} {Q : Exit → Act → World → Prop} {R : Act → World → Prop}

theorem ord_storeS {k : Nat} {r : List (Nat × Bool)} {a : Act} {w : World} {o : Oper} (ho : ops[k]? = some o) (hw : Region.wanted o (yielded ops a.tmps) = true) (hd : o.dst = none) {t : TypeId} {p v : Operand} (hop : o.op = Op.store t p v)
    {g : Nat} {t' : TypeId} {cs cs' : Array Value} (hp : a.eval p = .pointer (some ⟨g, 0, none⟩)) (hv : a.eval v = .agg cs') (h : Blk w g t' cs) (hi : (P.info? t).map (·.size) = some cs'.size) (hz : cs.size = cs'.size) (h1 : cs'.all (·.oneCell') = true)
    (K : ∀ w', Blk w' g t' cs' → (∀ k, k ≠ g → w'.heap[k]? = w.heap[k]?) → (∀ g' t'' cs'', g ≠ g' → Blk w g' t'' cs'' → Blk w' g' t'' cs'') → (∀ B w0, B ≤ g → Below B w0 w → Below B w0 w') → S w' ∧ wpOrd P ops Q S R r a w') : wpOrd P ops Q S R ((k, true) :: r) a w := by
  show wpOp P ops (NoPanic Q) k _ a w
  unfold wpOp
  simp only [ho]
  rw [if_pos hw]
  refine .inl ?_
  have hrun : (Instr.storeAt t (.pointer (some ⟨g, 0, none⟩)) (.agg cs')).run P w = .ok () (w.setRow g cs') := by
    simp only [Instr.storeAt, Instr.sureAddr, Sem.run_bind, Sem.run_pure, Result.andThen]
    exact h.store hi hz h1
  unfold Oper.wp
  simp [execOp, hop, hp, hv, hrun, Result.andThen]
  simp only [Oper.upon]
  rw [show a.put o.dst undef = a by rw [hd]; rfl]
  exact K _ (h.row cs') (fun k hk => by simp only [World.setRow]; rw [Array.getElem?_modify, if_neg (fun e => hk e.symm)]) (fun g' t'' cs'' hne h' => h'.rowOther hne _) (fun _ _ hB hb => below_setRow hb hB _)

/-- Two chains, i then i', and j (which is listed ahead of both): in whatever order, to one end. -/
theorem anyH_fork3v {n i i' j : Nat} {L0 : Array Bool} {a : Act} {w : World} {F : Value → Value → Value → Act} (G : Value → Value → Value → World → Prop) (L3 : Array Bool)
    (hB : (Region.noSelect ops && decide (Region.ready .any ops L0 = [j, i]) && decide (Region.ready .any ops (L0.setIfInBounds i true) = [j, i']) && decide (ordTo ops [(j, true)] ((L0.setIfInBounds i true).setIfInBounds i' true) = some L3) && decide (ordTo ops [(i', true)] ((L0.setIfInBounds i true).setIfInBounds j true) = some L3) && decide (ordTo ops [(i, true), (i', true)] (L0.setIfInBounds j true) = some L3)) = true)
    (h1 : wpOrd P ops Q S (fun a' w' => S w' ∧ wpOrd P ops Q S (fun a' w' => ∃ x y z, a' = F x y z ∧ G x y z w') [(i', true), (j, true)] a' w' ∧ wpOrd P ops Q S (fun a' w' => ∃ x y z, a' = F x y z ∧ G x y z w') [(j, true), (i', true)] a' w') [(i, true)] a w)
    (h2 : wpOrd P ops Q S (fun a' w' => ∃ x y z, a' = F x y z ∧ G x y z w') [(j, true), (i, true), (i', true)] a w)
    (hK : ∀ x y z w', G x y z w' → wpAnyH P .any ops (NoPanic Q) S n L3 (F x y z) w') : wpAnyH P .any ops (NoPanic Q) S (n + 3) L0 a w := by
  simp only [Bool.and_eq_true, decide_eq_true_eq] at hB
  obtain ⟨⟨⟨⟨⟨hs, h0⟩, hi⟩, hij⟩, hji⟩, hj⟩ := hB
  have up : ∀ (order : List (Nat × Bool)) (a : Act) (w : World), wpOrd P ops Q S (fun a' w' => ∃ x y z, a' = F x y z ∧ G x y z w') order a w → wpOrd P ops Q S (fun a w => wpAnyH P .any ops (NoPanic Q) S n L3 a w) order a w := by
    intro order
    induction order with
    | nil =>
      rintro a w ⟨x, y, z, rfl, hG⟩
      exact hK x y z w hG
    | cons x r ih =>
      obtain ⟨k, b⟩ := x
      cases b
      · rintro a w ⟨o, v, ho, hy, hr⟩
        exact ⟨o, v, ho, hy, ih _ _ hr⟩
      · intro a w h
        exact wpOp_mono (fun a' w' ⟨h1, h2⟩ => ⟨h1, ih _ _ h2⟩) h
  refine wpAnyH_all h0 (by simp) fun k hk => ?_
  simp only [List.mem_cons, List.not_mem_nil, or_false] at hk
  rcases hk with rfl | rfl
  · exact wpOp_mono (fun a2 w2 ⟨hS2, h⟩ => ⟨hS2, anyH_of_to hs [(_, true), (_, true)] n _ _ a2 w2 hj hS2 (up _ _ _ h)⟩) h2
  · refine wpOp_mono (fun a' w' ⟨hS, _, ha, hb⟩ => ⟨hS, ?_⟩) h1
    refine wpAnyH_all hi (by simp) fun k' hk' => ?_
    simp only [List.mem_cons, List.not_mem_nil, or_false] at hk'
    rcases hk' with rfl | rfl
    · exact wpOp_mono (fun a2 w2 ⟨hS2, h⟩ => ⟨hS2, anyH_of_to hs [(_, true)] n _ _ a2 w2 hji hS2 (up _ _ _ h)⟩) hb
    · exact wpOp_mono (fun a2 w2 ⟨hS2, h⟩ => ⟨hS2, anyH_of_to hs [(_, true)] n _ _ a2 w2 hij hS2 (up _ _ _ h)⟩) ha

end
end Go.Proofs.Ytmpjnabadplbjaa
