/-
  Loads and stores of one cell, as laws that a walk is told.
-/
import Derived.Test.YtfiflcedbejamaaBlk
namespace Go.Proofs.Ytfiflcedbejamaa
open Go.RowKit

/-- What a load yields, what a store leaves: shut, so that a law that does not fit fails at once. -/
structure LoadsTo (P : Program) (t : TypeId) (ad : Addr) (u : Value) (w : World) : Prop where
  run : (Instr.loadAt t (.pointer (some ad))).run P w = .ok u w
structure StoresTo (P : Program) (t : TypeId) (ad : Addr) (u : Value) (w w1 : World) : Prop where
  run : (Instr.storeAt t (.pointer (some ad)) u).run P w = .ok () w1
theorem load_at {P : Program} {w : World} {ops : Array Oper} {rest : List Oper} {o : Oper} {a : Act} {Q : Exit → Act → World → Prop} (hg : o.guard = none) {t : TypeId} {p : Operand} (hop : o.op = Op.load t p)
    {ad : Addr} {u : Value} (hp : a.eval p = .pointer (some ad)) (hl : LoadsTo P t ad u w)
    (K : wpList P ops Q rest (a.put o.dst u) w) : wpList P ops Q (o :: rest) a w := by
  have hrun := hl.run
  refine wpList_plain hg fun K' hK' => ?_
  unfold Oper.wp
  simp [execOp, hop, hp, hrun, Result.andThen]
  exact hK' _ _ K
theorem store_at {P : Program} {w w1 : World} {ops : Array Oper} {rest : List Oper} {o : Oper} {a : Act} {Q : Exit → Act → World → Prop} (hg : o.guard = none) (hd : o.dst = none) {t : TypeId} {p v : Operand} (hop : o.op = Op.store t p v)
    {ad : Addr} {u : Value} (hp : a.eval p = .pointer (some ad)) (hv : a.eval v = u) (hs : StoresTo P t ad u w w1)
    (K : wpList P ops Q rest a w1) : wpList P ops Q (o :: rest) a w := by
  have hrun := hs.run
  refine wpList_plain hg fun K' hK' => ?_
  unfold Oper.wp
  simp [execOp, hop, hp, hv, hrun, Result.andThen]
  refine hK' _ _ ?_
  rw [show a.put o.dst undef = a by rw [hd]; rfl]
  exact K

theorem load3 {W : World} {g i : Nat} {u : Value} (h : W.cell? ⟨g, i, none⟩ = some u) : LoadsTo Try.prog 3 ⟨g, i, none⟩ u W := by
  constructor
  go_simp

theorem store3 {W : World} {g i : Nat} {u : Value} {x : Int} (h : W.cell? ⟨g, i, none⟩ = some u) (hf : W.frozen? ⟨g, i, none⟩ = false) : StoresTo Try.prog 3 ⟨g, i, none⟩ (.int .i64 x) W (W.setCell ⟨g, i, none⟩ (.int .i64 x)) := by
  constructor
  go_simp

theorem loadZs {W : World} {g i : Nat} {u : Value} (h : W.cell? ⟨g, i, none⟩ = some u) : LoadsTo Try.prog 24 ⟨g, i, none⟩ u W := by
  constructor
  go_simp

theorem storeZs {W : World} {g i : Nat} {u : Value} {a : Option Addr} {n c : Nat} (h : W.cell? ⟨g, i, none⟩ = some u) (hf : W.frozen? ⟨g, i, none⟩ = false) : StoresTo Try.prog 24 ⟨g, i, none⟩ (.slice a n c) W (W.setCell ⟨g, i, none⟩ (.slice a n c)) := by
  constructor
  go_simp

theorem loadRs {W : World} {g i : Nat} {u : Value} (h : W.cell? ⟨g, i, none⟩ = some u) : LoadsTo Try.prog 26 ⟨g, i, none⟩ u W := by
  constructor
  go_simp

theorem storeRs {W : World} {g i : Nat} {u : Value} {a : Option Addr} {n c : Nat} (h : W.cell? ⟨g, i, none⟩ = some u) (hf : W.frozen? ⟨g, i, none⟩ = false) : StoresTo Try.prog 26 ⟨g, i, none⟩ (.slice a n c) W (W.setCell ⟨g, i, none⟩ (.slice a n c)) := by
  constructor
  go_simp

end Go.Proofs.Ytfiflcedbejamaa
