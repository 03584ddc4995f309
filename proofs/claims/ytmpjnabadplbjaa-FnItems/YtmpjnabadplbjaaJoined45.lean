/-
  Texts of one's own, joined.
-/
import Derived.Test.YtmpjnabadplbjaaJoined3
import Derived.Test.YtmpjnabadplbjaaJoined35
import Derived.Test.YtmpjnabadplbjaaJoined44

/-
  Loads and stores of one cell, as laws that a walk is told.
-/
namespace Go.Proofs.Ytmpjnabadplbjaa
open Go.RowKit

/-- What a load yields, what a store leaves: shut, so that a law that does not fit fails at once. -/
structure LoadsTo (P : Program) (t : TypeId) (ad : Addr) (u : Value) (w : World) : Prop where
  run : (Instr.loadAt t (.pointer (some ad))).run P w = .ok u w
structure StoresTo (P : Program) (t : TypeId) (ad : Addr) (u : Value) (w w1 : World) : Prop where
  run : (Instr.storeAt t (.pointer (some ad)) u).run P w = .ok () w1
theorem load_at {P : Program} {w : World} {ops : Array Oper} {rest : List Oper} {o : Oper} {a : Act} {Q : Exit → Act → World → Prop} (hg : o.guard = none) {t : TypeId} {p : Operand} (hop : o.op = Op.load t p)
    {ad : Addr} {u : Value} (hp : a.eval p = .pointer (some ad)) (hl : LoadsTo P t ad u w)
    (K : wpList P ops Q rest (a.put o.dst u) w) : wpList P ops Q (o :: rest) a w := by
  have hrun := hl.run
  refine wpList_plain hg fun K' hK' => ?_
  unfold Oper.wp
  simp [execOp, hop, hp, hrun, Result.andThen]
  exact hK' _ _ K
theorem store_at {P : Program} {w w1 : World} {ops : Array Oper} {rest : List Oper} {o : Oper} {a : Act} {Q : Exit → Act → World → Prop} (hg : o.guard = none) (hd : o.dst = none) {t : TypeId} {p v : Operand} (hop : o.op = Op.store t p v)
    {ad : Addr} {u : Value} (hp : a.eval p = .pointer (some ad)) (hv : a.eval v = u) (hs : StoresTo P t ad u w w1)
    (K : wpList P ops Q rest a w1) : wpList P ops Q (o :: rest) a w := by
  have hrun := hs.run
  refine wpList_plain hg fun K' hK' => ?_
  unfold Oper.wp
  simp [execOp, hop, hp, hv, hrun, Result.andThen]
  refine hK' _ _ ?_
  rw [show a.put o.dst undef = a by rw [hd]; rfl]
  exact K

theorem load3 {W : World} {g i : Nat} {u : Value} (h : W.cell? ⟨g, i, none⟩ = some u) : LoadsTo Try.prog 3 ⟨g, i, none⟩ u W := by
  constructor
  go_simp

theorem store3 {W : World} {g i : Nat} {u : Value} {x : Int} (h : W.cell? ⟨g, i, none⟩ = some u) (hf : W.frozen? ⟨g, i, none⟩ = false) : StoresTo Try.prog 3 ⟨g, i, none⟩ (.int .i64 x) W (W.setCell ⟨g, i, none⟩ (.int .i64 x)) := by
  constructor
  go_simp

theorem loadZs {W : World} {g i : Nat} {u : Value} (h : W.cell? ⟨g, i, none⟩ = some u) : LoadsTo Try.prog 41 ⟨g, i, none⟩ u W := by
  constructor
  go_simp

theorem storeZs {W : World} {g i : Nat} {u : Value} {a : Option Addr} {n c : Nat} (h : W.cell? ⟨g, i, none⟩ = some u) (hf : W.frozen? ⟨g, i, none⟩ = false) : StoresTo Try.prog 41 ⟨g, i, none⟩ (.slice a n c) W (W.setCell ⟨g, i, none⟩ (.slice a n c)) := by
  constructor
  go_simp

end Go.Proofs.Ytmpjnabadplbjaa

/-
  A store of a point into a field of a struct's block.
  (-DROP-: what the seat lacks is left out.)
-/
namespace Go.Proofs.Ytmpjnabadplbjaa
open Go.RowKit

/-- A struct out of a part of a block. -/
theorem Blk.loadPart {P : Program} {w : World} {g : Nat} {t ty : TypeId} {cs ds : Array Value} {fs : Array Field} (o : Nat) (h : Blk w g t cs) (hu : P.underlying ty = some (.struct fs)) (hi : (P.info? ty).map (·.size) = some ds.size) (hp : (cs.toList.drop o).take ds.size = ds.toList) :
    (loadVar ty ⟨g, o, none⟩).run P w = .ok (.agg ds) w := by
  have hc := run_loadCells_list (P := P) w ⟨g, o, none⟩ ds.toList (fun j v hv => by
    have hadd : (⟨g, o, none⟩ : Addr).add j = ⟨g, o + j, none⟩ := by unfold Addr.add; split <;> simp_all
    rw [hadd, h.cell (o + j)]
    rw [← hp, List.getElem?_take] at hv
    split at hv
    · rw [List.getElem?_drop] at hv
      simpa using hv
    · cases hv)
  cases hq : P.info? ty with
  | none => simp [hq] at hi
  | some i =>
    have hs : i.size = ds.size := by simp [hq] at hi; omega
    have hc' : (loadCells ⟨g, o, none⟩ ds.size).run P w = .ok ds w := by simpa using hc
    simp [loadVar, isAgg, underlying, hu, sizeOf, typeInfo, hq, hs, hc', Result.andThen]
theorem load_part {P : Program} {w : World} {ops : Array Oper} {rest : List Oper} {o : Oper} {a : Act} {Q : Exit → Act → World → Prop} (hg : Region.wanted o (yielded ops a.tmps) = true) {t : TypeId} {p : Operand} (hop : o.op = Op.load t p)
    {g i : Nat} {t' : TypeId} {cs ds : Array Value} {fs : Array Field} (hp : a.eval p = .pointer (some ⟨g, i, none⟩)) (h : Blk w g t' cs) (hu : P.underlying t = some (.struct fs)) (hi : (P.info? t).map (·.size) = some ds.size) (hd : (cs.toList.drop i).take ds.size = ds.toList)
    (K : wpList P ops Q rest (a.put o.dst (.agg ds)) w) : wpList P ops Q (o :: rest) a w := by
  have hrun : (Instr.loadAt t (.pointer (some ⟨g, i, none⟩))).run P w = .ok (.agg ds) w := by
    simp only [Instr.loadAt, Instr.sureAddr, Sem.run_bind, Sem.run_pure, Result.andThen]
    exact h.loadPart i hu hi hd
  unfold wpList
  rw [if_pos hg]
  refine .inl ?_
  unfold Oper.wp
  simp [execOp, hop, hp, hrun, Result.andThen]
  exact K

end Go.Proofs.Ytmpjnabadplbjaa

/-
  Results that live in blocks, some in slots; a load of a whole struct taken first in a region that draws.
  (-DROP-: what the seat lacks is left out.)
-/
namespace Go.Proofs.Ytmpjnabadplbjaa
open Go.RowKit

theorem result_BBtB {P : Program} {fn : Func} {p1 p2 q p3 : Tmp} {y1 y2 y3 t1 t2 t3 : TypeId} {f1 f2 f3 : Array Field} (h : fn.results = #[.cell p1 y1, .cell p2 y2, .tmp q, .cell p3 y3]) {tmps : Array Value} {w : World} {g1 g2 g3 : Nat} {c1 c2 c3 : Array Value} {v : Value} (h1 : tmps.getD p1 undef = .pointer (some ⟨g1, 0, none⟩)) (h2 : tmps.getD p2 undef = .pointer (some ⟨g2, 0, none⟩)) (hq : tmps.getD q undef = v) (h3 : tmps.getD p3 undef = .pointer (some ⟨g3, 0, none⟩))
    (b1 : Blk w g1 t1 c1) (b2 : Blk w g2 t2 c2) (b3 : Blk w g3 t3 c3) (u1 : P.underlying y1 = some (.struct f1)) (i1 : (P.info? y1).map (·.size) = some c1.size) (u2 : P.underlying y2 = some (.struct f2)) (i2 : (P.info? y2).map (·.size) = some c2.size) (u3 : P.underlying y3 = some (.struct f3)) (i3 : (P.info? y3).map (·.size) = some c3.size) : (results fn tmps).run P w = .ok (.tuple #[.agg c1, .agg c2, v, .agg c3]) w := by
  have l1 := b1.load u1 i1
  have l2 := b2.load u2 i2
  have l3 := b3.load u3 i3
  have h1' : tmps[p1]?.getD undef = .pointer (some ⟨g1, 0, none⟩) := by simpa using h1
  have h2' : tmps[p2]?.getD undef = .pointer (some ⟨g2, 0, none⟩) := by simpa using h2
  have hq' : tmps[q]?.getD undef = v := by simpa using hq
  have h3' : tmps[p3]?.getD undef = .pointer (some ⟨g3, 0, none⟩) := by simpa using h3
  simp [results, h, h1', h2', hq', h3', asAddr, l1, l2, l3, Result.andThen]
theorem result_BtB {P : Program} {fn : Func} {p1 q p3 : Tmp} {y1 y3 t1 t3 : TypeId} {f1 f3 : Array Field} (h : fn.results = #[.cell p1 y1, .tmp q, .cell p3 y3]) {tmps : Array Value} {w : World} {g1 g3 : Nat} {c1 c3 : Array Value} {v : Value} (h1 : tmps.getD p1 undef = .pointer (some ⟨g1, 0, none⟩)) (hq : tmps.getD q undef = v) (h3 : tmps.getD p3 undef = .pointer (some ⟨g3, 0, none⟩))
    (b1 : Blk w g1 t1 c1) (b3 : Blk w g3 t3 c3) (u1 : P.underlying y1 = some (.struct f1)) (i1 : (P.info? y1).map (·.size) = some c1.size) (u3 : P.underlying y3 = some (.struct f3)) (i3 : (P.info? y3).map (·.size) = some c3.size) : (results fn tmps).run P w = .ok (.tuple #[.agg c1, v, .agg c3]) w := by
  have l1 := b1.load u1 i1
  have l3 := b3.load u3 i3
  have h1' : tmps[p1]?.getD undef = .pointer (some ⟨g1, 0, none⟩) := by simpa using h1
  have hq' : tmps[q]?.getD undef = v := by simpa using hq
  have h3' : tmps[p3]?.getD undef = .pointer (some ⟨g3, 0, none⟩) := by simpa using h3
  simp [results, h, h1', hq', h3', asAddr, l1, l3, Result.andThen]
theorem result_BBttt {P : Program} {fn : Func} {p1 p2 q1 q2 q3 : Tmp} {y1 y2 t1 t2 : TypeId} {f1 f2 : Array Field} (h : fn.results = #[.cell p1 y1, .cell p2 y2, .tmp q1, .tmp q2, .tmp q3]) {tmps : Array Value} {w : World} {g1 g2 : Nat} {c1 c2 : Array Value} {v1 v2 v3 : Value} (h1 : tmps.getD p1 undef = .pointer (some ⟨g1, 0, none⟩)) (h2 : tmps.getD p2 undef = .pointer (some ⟨g2, 0, none⟩)) (hq1 : tmps.getD q1 undef = v1) (hq2 : tmps.getD q2 undef = v2) (hq3 : tmps.getD q3 undef = v3)
    (b1 : Blk w g1 t1 c1) (b2 : Blk w g2 t2 c2) (u1 : P.underlying y1 = some (.struct f1)) (i1 : (P.info? y1).map (·.size) = some c1.size) (u2 : P.underlying y2 = some (.struct f2)) (i2 : (P.info? y2).map (·.size) = some c2.size) : (results fn tmps).run P w = .ok (.tuple #[.agg c1, .agg c2, v1, v2, v3]) w := by
  have l1 := b1.load u1 i1
  have l2 := b2.load u2 i2
  have h1' : tmps[p1]?.getD undef = .pointer (some ⟨g1, 0, none⟩) := by simpa using h1
  have h2' : tmps[p2]?.getD undef = .pointer (some ⟨g2, 0, none⟩) := by simpa using h2
  have a1 : tmps[q1]?.getD undef = v1 := by simpa using hq1
  have a2 : tmps[q2]?.getD undef = v2 := by simpa using hq2
  have a3 : tmps[q3]?.getD undef = v3 := by simpa using hq3
  simp [results, h, h1', h2', a1, a2, a3, asAddr, l1, l2, Result.andThen]

section
variable {P : Program} {ops : Array Oper} {S : World → Prop} {Q : Exit → Act → World → Prop} {R : Act → World → Prop}
/-- A load of a whole struct, taken first. -/
theorem ord_loadB {k : Nat} {r : List (Nat × Bool)} {a : Act} {o : Oper} {w : World} (ho : ops[k]? = some o) (hgd : Region.wanted o (yielded ops a.tmps) = true) {t : TypeId} {p : Operand} (hop : o.op = Op.load t p)
    {g : Nat} {t' : TypeId} {cs : Array Value} {fs : Array Field} (hp : a.eval p = .pointer (some ⟨g, 0, none⟩)) (hb : ∀ w', S w' → Blk w' g t' cs) (hu : P.underlying t = some (.struct fs)) (hi : (P.info? t).map (·.size) = some cs.size)
    (K : ∀ K : Act → Prop, (∀ a, wpOrd P ops Q S R r a w → K a) → K (a.put o.dst (.agg cs))) : wpOrd P ops Q S R ((k, false) :: r) a w := by
  refine ord_float ho hgd (fun K' hK' => ⟨.agg cs, fun w' hw => ?_, hK' _ (K _ (fun _ h => h))⟩)
  have hrun : (Instr.loadAt t (.pointer (some ⟨g, 0, none⟩))).run P w' = .ok (.agg cs) w' := by
    simp only [Instr.loadAt, Instr.sureAddr, Sem.run_bind, Sem.run_pure, Result.andThen]
    exact (hb w' hw).load hu hi
  simp [execOp, hop, hp, hrun, Result.andThen]
/-- A load of a struct out of a part of a block, taken first. -/
theorem ord_loadPart {k : Nat} {r : List (Nat × Bool)} {a : Act} {o : Oper} {w : World} (ho : ops[k]? = some o) (hgd : Region.wanted o (yielded ops a.tmps) = true) {t : TypeId} {p : Operand} (hop : o.op = Op.load t p)
    {g i : Nat} {t' : TypeId} {cs ds : Array Value} {fs : Array Field} (hp : a.eval p = .pointer (some ⟨g, i, none⟩)) (hb : ∀ w', S w' → Blk w' g t' cs) (hu : P.underlying t = some (.struct fs)) (hi : (P.info? t).map (·.size) = some ds.size) (hd : (cs.toList.drop i).take ds.size = ds.toList)
    (K : ∀ K : Act → Prop, (∀ a, wpOrd P ops Q S R r a w → K a) → K (a.put o.dst (.agg ds))) : wpOrd P ops Q S R ((k, false) :: r) a w := by
  refine ord_float ho hgd (fun K' hK' => ⟨.agg ds, fun w' hw => ?_, hK' _ (K _ (fun _ h => h))⟩)
  have hrun : (Instr.loadAt t (.pointer (some ⟨g, i, none⟩))).run P w' = .ok (.agg ds) w' := by
    simp only [Instr.loadAt, Instr.sureAddr, Sem.run_bind, Sem.run_pure, Result.andThen]
    exact (hb w' hw).loadPart i hu hi hd
  simp [execOp, hop, hp, hrun, Result.andThen]
end
end Go.Proofs.Ytmpjnabadplbjaa
