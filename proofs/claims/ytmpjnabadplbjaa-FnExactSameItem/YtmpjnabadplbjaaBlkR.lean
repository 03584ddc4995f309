/-
  Results in blocks, and stores of whole structs.
-/
import Derived.Test.YtmpjnabadplbjaaBlk
namespace Go.Proofs.Ytmpjnabadplbjaa
open Go.RowKit

/-- A result that lives in a block, and one in a slot. -/
theorem result_Btmp {P : Program} {fn : Func} {p q : Tmp} {ty t : TypeId} {fs : Array Field} (h : fn.results = #[.cell p ty, .tmp q]) {tmps : Array Value} {w : World} {g : Nat} {cs : Array Value} {v : Value} (hp : tmps.getD p undef = .pointer (some ⟨g, 0, none⟩)) (hq : tmps.getD q undef = v)
    (hA : Blk w g t cs) (hu : P.underlying ty = some (.struct fs)) (hi : (P.info? ty).map (·.size) = some cs.size) : (results fn tmps).run P w = .ok (.tuple #[.agg cs, v]) w := by
  have hl := hA.load hu hi
  have hp' : tmps[p]?.getD undef = .pointer (some ⟨g, 0, none⟩) := by simpa using hp
  have hq' : tmps[q]?.getD undef = v := by simpa using hq
  simp [results, h, hp', hq', asAddr, hl, Result.andThen]

/-- A whole struct into its block; every other block is as it was. -/
theorem store_blkS {P : Program} {w : World} {ops : Array Oper} {rest : List Oper} {o : Oper} {a : Act} {Q : Exit → Act → World → Prop} (hg : o.guard = none) (hd : o.dst = none) {t : TypeId} {p v : Operand} (hop : o.op = Op.store t p v)
    {g : Nat} {t' : TypeId} {cs cs' : Array Value} (hp : a.eval p = .pointer (some ⟨g, 0, none⟩)) (hv : a.eval v = .agg cs') (h : Blk w g t' cs) (hi : (P.info? t).map (·.size) = some cs'.size) (ho : cs.size = cs'.size) (h1 : cs'.all (·.oneCell') = true)
    (K : ∀ w', Blk w' g t' cs' → (∀ k, k ≠ g → w'.heap[k]? = w.heap[k]?) → (∀ g' t'' cs'', g ≠ g' → Blk w g' t'' cs'' → Blk w' g' t'' cs'') → (∀ B w0, B ≤ g → Below B w0 w → Below B w0 w') → wpList P ops Q rest a w') : wpList P ops Q (o :: rest) a w := by
  refine wpList_plain hg fun K' hK' => ?_
  have hrun : (Instr.storeAt t (.pointer (some ⟨g, 0, none⟩)) (.agg cs')).run P w = .ok () (w.setRow g cs') := by
    simp only [Instr.storeAt, Instr.sureAddr, Sem.run_bind, Sem.run_pure, Result.andThen]
    exact h.store hi ho h1
  unfold Oper.wp
  simp [execOp, hop, hp, hv, hrun, Result.andThen]
  refine hK' _ _ ?_
  rw [show a.put o.dst undef = a by rw [hd]; rfl]
  exact (K _ (h.row cs') (fun k hk => by simp only [World.setRow]; rw [Array.getElem?_modify, if_neg (fun e => hk e.symm)]) (fun g' t'' cs'' hne h' => h'.rowOther hne _) (fun _ _ hB hb => below_setRow hb hB _))

end Go.Proofs.Ytmpjnabadplbjaa
