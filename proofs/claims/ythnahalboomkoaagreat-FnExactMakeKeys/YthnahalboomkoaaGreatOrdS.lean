/-
  A store into a struct's block in a region that draws its order: all other blocks are told. Two chains beside one another, with three values at their end.
-/
import Derived.Test.YthnahalboomkoaaGreatJoined10

namespace Go.Proofs.YthnahalboomkoaaGreat
open Go.RowKit

section
variable {P : Program} {ops : Array Oper} {S : World → Prop} {Q : Exit → Act → World → Prop} {R : Act → World → Prop}

theorem ord_storeS {k : Nat} {r : List (Nat × Bool)} {a : Act} {w : World} {o : Oper} (ho : ops[k]? = some o) (hw : Region.wanted o (yielded ops a.tmps) = true) (hd : o.dst = none) {t : TypeId} {p v : Operand} (hop : o.op = Op.store t p v)
    {g : Nat} {t' : TypeId} {cs cs' : Array Value} (hp : a.eval p = .pointer (some ⟨g, 0, none⟩)) (hv : a.eval v = .agg cs') (h : Blk w g t' cs) (hi : (P.info? t).map (·.size) = some cs'.size) (hz : cs.size = cs'.size) (h1 : cs'.all (·.oneCell') = true)
    (K : ∀ w', Blk w' g t' cs' → (∀ k, k ≠ g → w'.heap[k]? = w.heap[k]?) → (∀ g' t'' cs'', g ≠ g' → Blk w g' t'' cs'' → Blk w' g' t'' cs'') → (∀ B w0, B ≤ g → Below B w0 w → Below B w0 w') → S w' ∧ wpOrd P ops Q S R r a w') : wpOrd P ops Q S R ((k, true) :: r) a w := by
  show wpOp P ops (NoPanic Q) k _ a w
  unfold wpOp
  simp only [ho]
  rw [if_pos hw]
  refine .inl ?_
  have hrun : (Instr.storeAt t (.pointer (some ⟨g, 0, none⟩)) (.agg cs')).run P w = .ok () (w.setRow g cs') := by
    simp only [Instr.storeAt, Instr.sureAddr, Sem.run_bind, Sem.run_pure, Result.andThen]
    exact h.store hi hz h1
  unfold Oper.wp
  simp [execOp, hop, hp, hv, hrun, Result.andThen]
  simp only [Oper.upon]
  rw [show a.put o.dst undef = a by rw [hd]; rfl]
  exact K _ (h.row cs') (fun k hk => by simp only [World.setRow]; rw [Array.getElem?_modify, if_neg (fun e => hk e.symm)]) (fun g' t'' cs'' hne h' => h'.rowOther hne _) (fun _ _ hB hb => below_setRow hb hB _)

end
end Go.Proofs.YthnahalboomkoaaGreat
