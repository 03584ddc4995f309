/-
  What an argument of five numbers is to the walk; its copy.
  (-DROP-: what the seat lacks is left out.)
-/
import Derived.Test.YtbkfdafdchjakaaSysArg
import Derived.Test.YtbkfdafdchjakaaBlk

namespace Go.Proofs.Ytbkfdafdchjakaa
open Go.RowKit Go.ChangeShapes Go.WideShapes Go.Joins Go.Deep

theorem trod_struct5 {H : Type} {enc : TypeId × Value → H} {P : Program} {w : World} {base : Nat} {spare : Nat → Bool} {held : Bool} {t : TypeId} {f0 f1 f2 f3 f4 : Field} {fuel : Nat} {cs : List Value} {x : DataW H × List MemPlace} (ht : P.underlying t = some (.struct #[f0, f1, f2, f3, f4])) (h : DataW.trod enc P w base spare held fuel t cs = some x) :
    ∃ y0 y1 y2 y3 y4 n, DataW.trod enc P w base spare held n f0.type ((cs.drop f0.offset).take (P.cellsOf f0.type)) = some y0 ∧ DataW.trod enc P w base spare held n f1.type ((cs.drop f1.offset).take (P.cellsOf f1.type)) = some y1 ∧ DataW.trod enc P w base spare held n f2.type ((cs.drop f2.offset).take (P.cellsOf f2.type)) = some y2 ∧
      DataW.trod enc P w base spare held n f3.type ((cs.drop f3.offset).take (P.cellsOf f3.type)) = some y3 ∧ DataW.trod enc P w base spare held n f4.type ((cs.drop f4.offset).take (P.cellsOf f4.type)) = some y4 := by
  obtain ⟨xs, n, _, rfl, hl, hlen, hf⟩ := DataW.trod_struct ht h
  match xs, hlen with
  | [y0, y1, y2, y3, y4], _ => exact ⟨y0, y1, y2, y3, y4, n, by simpa using hf 0 f0 rfl, by simpa using hf 1 f1 rfl, by simpa using hf 2 f2 rfl, by simpa using hf 3 f3 rfl, by simpa using hf 4 f4 rfl⟩

theorem cellsLT : Try.prog.cellsOf 51 = 5 := by kernel_rfl

set_option maxRecDepth 100000 in
theorem toxic_form {H : Type} {enc : TypeId × Value → H} {W : World} {sp : Nat → Bool} {r : Reach} {b0 : Nat} {v : Value} {d : DataW H} {p : List MemPlace} (hv : Value.okWide Try.prog W r b0 51 v) (h : DataW.Trod enc Try.prog W 0 sp true 51 v d p) :
    ∃ ta al be ga de, v = .agg #[.int .i64 ta, .int .i64 al, .int .i64 be, .int .i64 ga, .int .i64 de] := by
  obtain ⟨cs, rfl, hsz⟩ := okWide_struct Try.underlying51 hv
  obtain ⟨l⟩ := cs
  match l, hsz.trans cellsLT with
  | [c0, c1, c2, c3, c4], _ =>
    obtain ⟨fuel, hf⟩ := h
    obtain ⟨y0, y1, y2, y3, y4, n, u0, u1, u2, u3, u4⟩ := trod_struct5 Try.underlying51 hf
    simp only [Value.cells, cellsI3, List.drop, List.take] at u0 u1 u2 u3 u4
    obtain ⟨ta, e0, _, _⟩ := DataW.trod_int Try.underlying3 u0
    obtain ⟨al, e1, _, _⟩ := DataW.trod_int Try.underlying3 u1
    obtain ⟨be, e2, _, _⟩ := DataW.trod_int Try.underlying3 u2
    obtain ⟨ga, e3, _, _⟩ := DataW.trod_int Try.underlying3 u3
    obtain ⟨de, e4, _, _⟩ := DataW.trod_int Try.underlying3 u4
    simp only [List.cons.injEq, and_true] at e0 e1 e2 e3 e4
    subst e0 e1 e2 e3 e4
    exact ⟨ta, al, be, ga, de, rfl⟩

theorem infoTi : (Try.prog.info? 31).map (·.size) = some 5 := by kernel_rfl

set_option maxHeartbeats 1600000 in
set_option maxRecDepth 100000 in
theorem toToxic_any (ta al be ga de : Int) (w : World) : Calls Try.prog 15 #[.agg #[.int .i64 ta, .int .i64 al, .int .i64 be, .int .i64 ga, .int .i64 de]] w fun e w' => e = .returned (.agg #[.int .i64 ta, .int .i64 al, .int .i64 be, .int .i64 ga, .int .i64 de]) ∧ Below w.heap.size w w' := by
  go_enter Try.func15, Try.ntmps15
  go_wp2
  obtain ⟨W, hW, hb, hx, hr, hv⟩ := boxes2r w 51 31 31 #[.int .i64 ta, .int .i64 al, .int .i64 be, .int .i64 ga, .int .i64 de] #[.int .i64 ta, .int .i64 al, .int .i64 be, .int .i64 ga, .int .i64 de] #[.int .i64 ta, .int .i64 al, .int .i64 be, .int .i64 ga, .int .i64 de]
  rw [hW]
  refine bodyPost_ret_by (result_blk rfl rfl hr Try.underlying31 infoTi) rfl ⟨rfl, hb⟩

end Go.Proofs.Ytbkfdafdchjakaa
