/-
  What an argument of three points is to the walk; its copy.
  (-DROP-: what the seat lacks is left out.)
-/
import Derived.Test.YtbkfdafdchjakabJoined11
import Derived.Test.YtbkfdafdchjakabJoined5
import Derived.Test.YtbkfdafdchjakabJoined9

namespace Go.Proofs.Ytbkfdafdchjakab
open Go.RowKit Go.ChangeShapes Go.WideShapes Go.Joins Go.Deep

theorem cellsLPr : Try.prog.cellsOf 29 = 9 := by kernel_rfl

theorem cellsLPt : Try.prog.cellsOf 23 = 3 := by kernel_rfl

theorem cellsB4 : Try.prog.cellsOf 4 = 1 := by kernel_rfl

theorem point_cells {H : Type} {enc : TypeId × Value → H} {W : World} {sp : Nat → Bool} {n : Nat} {y : DataW H × List MemPlace} {c0 c1 c2 : Value} (u : DataW.trod enc Try.prog W 0 sp true n 23 [c0, c1, c2] = some y) : ∃ P : Pt, c0 = .int .i64 P.1 ∧ c1 = .int .i64 P.2.1 ∧ c2 = .bool P.2.2 := by
  obtain ⟨y0, y1, y2, k, _, _, u0, u1, u2⟩ := trod_struct3 Try.underlying23 u
  simp only [cellsI3, cellsB4, List.drop, List.take] at u0 u1 u2
  obtain ⟨a, e0, _, _⟩ := DataW.trod_int Try.underlying3 u0
  obtain ⟨b, e1, _, _⟩ := DataW.trod_int Try.underlying3 u1
  obtain ⟨c, e2, _⟩ := DataW.trod_bool Try.underlying4 u2
  simp only [List.cons.injEq, and_true] at e0 e1 e2
  exact ⟨(a, b, c), e0, e1, e2⟩

set_option maxRecDepth 100000 in
theorem proof_form {H : Type} {enc : TypeId × Value → H} {W : World} {sp : Nat → Bool} {r : Reach} {b0 : Nat} {v : Value} {d : DataW H} {p : List MemPlace} (hv : Value.okWide Try.prog W r b0 29 v) (h : DataW.Trod enc Try.prog W 0 sp true 29 v d p) :
    ∃ A B C : Pt, v = .agg (prfC A B C) := by
  obtain ⟨cs, rfl, hsz⟩ := okWide_struct Try.underlying29 hv
  obtain ⟨l⟩ := cs
  match l, hsz.trans cellsLPr with
  | [c0, c1, c2, c3, c4, c5, c6, c7, c8], _ =>
    obtain ⟨fuel, hf⟩ := h
    obtain ⟨y0, y1, y2, n, _, _, u0, u1, u2⟩ := trod_struct3 Try.underlying29 hf
    simp only [Value.cells, cellsLPt, List.drop, List.take] at u0 u1 u2
    obtain ⟨A, rfl, rfl, rfl⟩ := point_cells u0
    obtain ⟨B, rfl, rfl, rfl⟩ := point_cells u1
    obtain ⟨C, rfl, rfl, rfl⟩ := point_cells u2
    exact ⟨A, B, C, rfl⟩

theorem infoPrI : (Try.prog.info? 39).map (·.size) = some 9 := by kernel_rfl

theorem infoPrL : (Try.prog.info? 29).map (·.size) = some 9 := by kernel_rfl

theorem ones9p (A B C : Pt) : (prfC A B C).all (·.oneCell') = true := by simp [prfC, Value.oneCell']

/-- Three cells of a block, set one by one. -/
theorem Blk.set3 {w : World} {g t : Nat} {cs : Array Value} (h : Blk w g t cs) (o : Nat) (x y z : Value) : Blk (((w.setCell ⟨g, o, none⟩ x).setCell ⟨g, o + 1, none⟩ y).setCell ⟨g, o + 2, none⟩ z) g t (((cs.setIfInBounds o x).setIfInBounds (o + 1) y).setIfInBounds (o + 2) z) := ((h.set o x).set (o + 1) y).set (o + 2) z
theorem Blk.other3 {w : World} {g g' o t : Nat} {cs : Array Value} (h : Blk w g t cs) (hne : g' ≠ g) (x y z : Value) : Blk (((w.setCell ⟨g', o, none⟩ x).setCell ⟨g', o + 1, none⟩ y).setCell ⟨g', o + 2, none⟩ z) g t cs := ((h.other hne x).other hne y).other hne z

set_option maxHeartbeats 3200000 in
set_option maxRecDepth 100000 in
theorem toProof_any (A B C : Pt) (w : World) : Calls Try.prog 11 #[.agg (prfC A B C)] w fun e w' => e = .returned (.agg (prfC A B C)) ∧ Below w.heap.size w w' := by
  obtain ⟨W, hW, hb, hx, hr, ho⟩ := boxes2r w 29 39 39 (prfC A B C) (prfC (0, 0, false) (0, 0, false) (0, 0, false)) (prfC (0, 0, false) (0, 0, false) (0, 0, false))
  have C0 : Hid (∀ w, Calls Try.prog 32 #[.agg #[.int .i64 A.1, .int .i64 A.2.1, .bool A.2.2]] w fun e w' => e = .returned (.agg #[.int .i64 A.1, .int .i64 A.2.1, .bool A.2.2]) ∧ Below w.heap.size w w') := toPoint_any A
  have C1 : Hid (∀ w, Calls Try.prog 32 #[.agg #[.int .i64 B.1, .int .i64 B.2.1, .bool B.2.2]] w fun e w' => e = .returned (.agg #[.int .i64 B.1, .int .i64 B.2.1, .bool B.2.2]) ∧ Below w.heap.size w w') := toPoint_any B
  have C2 : Hid (∀ w, Calls Try.prog 32 #[.agg #[.int .i64 C.1, .int .i64 C.2.1, .bool C.2.2]] w fun e w' => e = .returned (.agg #[.int .i64 C.1, .int .i64 C.2.1, .bool C.2.2]) ∧ Below w.heap.size w w') := toPoint_any C
  have HB : Hid (Below w.heap.size w W) := hb
  have hs1 : w.heap.size + 1 + 1 < W.heap.size := ho.lt
  unfold prfC at *
  have HX : Hid (Blk W w.heap.size 29 #[.int .i64 A.1, .int .i64 A.2.1, .bool A.2.2, .int .i64 B.1, .int .i64 B.2.1, .bool B.2.2, .int .i64 C.1, .int .i64 C.2.1, .bool C.2.2] ∧ Blk W (w.heap.size + 1) 39 #[.int .i64 0, .int .i64 0, .bool false, .int .i64 0, .int .i64 0, .bool false, .int .i64 0, .int .i64 0, .bool false] ∧ Blk W (w.heap.size + 1 + 1) 39 #[.int .i64 0, .int .i64 0, .bool false, .int .i64 0, .int .i64 0, .bool false, .int .i64 0, .int .i64 0, .bool false]) := ⟨hx, hr, ho⟩
  clear hb hx hr ho
  have q0 : W.cell? ⟨w.heap.size, 0, none⟩ = some (.int .i64 A.1) := HX.out.1.cell 0
  have q1 : W.cell? ⟨w.heap.size, 1, none⟩ = some (.int .i64 A.2.1) := HX.out.1.cell 1
  have q2 : W.cell? ⟨w.heap.size, 2, none⟩ = some (.bool A.2.2) := HX.out.1.cell 2
  go_enter Try.func11, Try.ntmps11
  go_wp2_with fail
  clear hW q0 q1 q2
  refine (C0.out _).mono ?_
  rintro e w1 ⟨rfl, hb1⟩
  have HX1 : Hid (Blk w1 w.heap.size 29 #[.int .i64 A.1, .int .i64 A.2.1, .bool A.2.2, .int .i64 B.1, .int .i64 B.2.1, .bool B.2.2, .int .i64 C.1, .int .i64 C.2.1, .bool C.2.2] ∧ Blk w1 (w.heap.size + 1) 39 #[.int .i64 0, .int .i64 0, .bool false, .int .i64 0, .int .i64 0, .bool false, .int .i64 0, .int .i64 0, .bool false] ∧ Blk w1 (w.heap.size + 1 + 1) 39 #[.int .i64 0, .int .i64 0, .bool false, .int .i64 0, .int .i64 0, .bool false, .int .i64 0, .int .i64 0, .bool false]) := ⟨HX.out.1.on hb1 HX.out.1.lt, HX.out.2.1.on hb1 HX.out.2.1.lt, HX.out.2.2.on hb1 HX.out.2.2.lt⟩
  have HB1 : Hid (Below w.heap.size w w1) := below_then HB.out hb1
  clear hb1 C0 HX HB
  have a0 : w1.cell? ⟨w.heap.size + 1 + 1, 0, none⟩ = some (.int .i64 0) := HX1.out.2.2.cell 0
  have f0 : w1.frozen? ⟨w.heap.size + 1 + 1, 0, none⟩ = false := HX1.out.2.2.free 0
  have a1 : w1.cell? ⟨w.heap.size + 1 + 1, 1, none⟩ = some (.int .i64 0) := HX1.out.2.2.cell 1
  have f1 : w1.frozen? ⟨w.heap.size + 1 + 1, 1, none⟩ = false := HX1.out.2.2.free 1
  have a2 : w1.cell? ⟨w.heap.size + 1 + 1, 2, none⟩ = some (.bool false) := HX1.out.2.2.cell 2
  have f2 : w1.frozen? ⟨w.heap.size + 1 + 1, 2, none⟩ = false := HX1.out.2.2.free 2
  have HY1 : Hid (Blk (((w1.setCell ⟨w.heap.size + 1 + 1, 0, none⟩ (.int .i64 A.1)).setCell ⟨w.heap.size + 1 + 1, 1, none⟩ (.int .i64 A.2.1)).setCell ⟨w.heap.size + 1 + 1, 2, none⟩ (.bool A.2.2)) w.heap.size 29 #[.int .i64 A.1, .int .i64 A.2.1, .bool A.2.2, .int .i64 B.1, .int .i64 B.2.1, .bool B.2.2, .int .i64 C.1, .int .i64 C.2.1, .bool C.2.2] ∧ Blk (((w1.setCell ⟨w.heap.size + 1 + 1, 0, none⟩ (.int .i64 A.1)).setCell ⟨w.heap.size + 1 + 1, 1, none⟩ (.int .i64 A.2.1)).setCell ⟨w.heap.size + 1 + 1, 2, none⟩ (.bool A.2.2)) (w.heap.size + 1) 39 #[.int .i64 0, .int .i64 0, .bool false, .int .i64 0, .int .i64 0, .bool false, .int .i64 0, .int .i64 0, .bool false] ∧ Blk (((w1.setCell ⟨w.heap.size + 1 + 1, 0, none⟩ (.int .i64 A.1)).setCell ⟨w.heap.size + 1 + 1, 1, none⟩ (.int .i64 A.2.1)).setCell ⟨w.heap.size + 1 + 1, 2, none⟩ (.bool A.2.2)) (w.heap.size + 1 + 1) 39 #[.int .i64 A.1, .int .i64 A.2.1, .bool A.2.2, .int .i64 0, .int .i64 0, .bool false, .int .i64 0, .int .i64 0, .bool false]) := ⟨HX1.out.1.other3 (by omega) _ _ _, HX1.out.2.1.other3 (by omega) _ _ _, HX1.out.2.2.set3 0 _ _ _⟩
  have HZ1 : Hid (Below w.heap.size w (((w1.setCell ⟨w.heap.size + 1 + 1, 0, none⟩ (.int .i64 A.1)).setCell ⟨w.heap.size + 1 + 1, 1, none⟩ (.int .i64 A.2.1)).setCell ⟨w.heap.size + 1 + 1, 2, none⟩ (.bool A.2.2))) := ((HB1.out.setCell (by show w.heap.size ≤ w.heap.size + 1 + 1; omega) _).setCell (by show w.heap.size ≤ w.heap.size + 1 + 1; omega) _).setCell (by show w.heap.size ≤ w.heap.size + 1 + 1; omega) _
  clear HX1 HB1
  have q0 : (((w1.setCell ⟨w.heap.size + 1 + 1, 0, none⟩ (.int .i64 A.1)).setCell ⟨w.heap.size + 1 + 1, 1, none⟩ (.int .i64 A.2.1)).setCell ⟨w.heap.size + 1 + 1, 2, none⟩ (.bool A.2.2)).cell? ⟨w.heap.size, 3, none⟩ = some (.int .i64 B.1) := HY1.out.1.cell 3
  have q1 : (((w1.setCell ⟨w.heap.size + 1 + 1, 0, none⟩ (.int .i64 A.1)).setCell ⟨w.heap.size + 1 + 1, 1, none⟩ (.int .i64 A.2.1)).setCell ⟨w.heap.size + 1 + 1, 2, none⟩ (.bool A.2.2)).cell? ⟨w.heap.size, 4, none⟩ = some (.int .i64 B.2.1) := HY1.out.1.cell 4
  have q2 : (((w1.setCell ⟨w.heap.size + 1 + 1, 0, none⟩ (.int .i64 A.1)).setCell ⟨w.heap.size + 1 + 1, 1, none⟩ (.int .i64 A.2.1)).setCell ⟨w.heap.size + 1 + 1, 2, none⟩ (.bool A.2.2)).cell? ⟨w.heap.size, 5, none⟩ = some (.bool B.2.2) := HY1.out.1.cell 5
  go_wp2_with fail
  clear q0 q1 q2 a0 a1 a2 f0 f1 f2
  refine (C1.out _).mono ?_
  rintro e w2 ⟨rfl, hb2⟩
  have HX2 : Hid (Blk w2 w.heap.size 29 #[.int .i64 A.1, .int .i64 A.2.1, .bool A.2.2, .int .i64 B.1, .int .i64 B.2.1, .bool B.2.2, .int .i64 C.1, .int .i64 C.2.1, .bool C.2.2] ∧ Blk w2 (w.heap.size + 1) 39 #[.int .i64 0, .int .i64 0, .bool false, .int .i64 0, .int .i64 0, .bool false, .int .i64 0, .int .i64 0, .bool false] ∧ Blk w2 (w.heap.size + 1 + 1) 39 #[.int .i64 A.1, .int .i64 A.2.1, .bool A.2.2, .int .i64 0, .int .i64 0, .bool false, .int .i64 0, .int .i64 0, .bool false]) := ⟨HY1.out.1.on hb2 HY1.out.1.lt, HY1.out.2.1.on hb2 HY1.out.2.1.lt, HY1.out.2.2.on hb2 HY1.out.2.2.lt⟩
  have HB2 : Hid (Below w.heap.size w w2) := below_then HZ1.out hb2
  clear hb2 C1 HY1 HZ1
  have a0 : w2.cell? ⟨w.heap.size + 1 + 1, 3, none⟩ = some (.int .i64 0) := HX2.out.2.2.cell 3
  have f0 : w2.frozen? ⟨w.heap.size + 1 + 1, 3, none⟩ = false := HX2.out.2.2.free 3
  have a1 : w2.cell? ⟨w.heap.size + 1 + 1, 4, none⟩ = some (.int .i64 0) := HX2.out.2.2.cell 4
  have f1 : w2.frozen? ⟨w.heap.size + 1 + 1, 4, none⟩ = false := HX2.out.2.2.free 4
  have a2 : w2.cell? ⟨w.heap.size + 1 + 1, 5, none⟩ = some (.bool false) := HX2.out.2.2.cell 5
  have f2 : w2.frozen? ⟨w.heap.size + 1 + 1, 5, none⟩ = false := HX2.out.2.2.free 5
  have HY2 : Hid (Blk (((w2.setCell ⟨w.heap.size + 1 + 1, 3, none⟩ (.int .i64 B.1)).setCell ⟨w.heap.size + 1 + 1, 4, none⟩ (.int .i64 B.2.1)).setCell ⟨w.heap.size + 1 + 1, 5, none⟩ (.bool B.2.2)) w.heap.size 29 #[.int .i64 A.1, .int .i64 A.2.1, .bool A.2.2, .int .i64 B.1, .int .i64 B.2.1, .bool B.2.2, .int .i64 C.1, .int .i64 C.2.1, .bool C.2.2] ∧ Blk (((w2.setCell ⟨w.heap.size + 1 + 1, 3, none⟩ (.int .i64 B.1)).setCell ⟨w.heap.size + 1 + 1, 4, none⟩ (.int .i64 B.2.1)).setCell ⟨w.heap.size + 1 + 1, 5, none⟩ (.bool B.2.2)) (w.heap.size + 1) 39 #[.int .i64 0, .int .i64 0, .bool false, .int .i64 0, .int .i64 0, .bool false, .int .i64 0, .int .i64 0, .bool false] ∧ Blk (((w2.setCell ⟨w.heap.size + 1 + 1, 3, none⟩ (.int .i64 B.1)).setCell ⟨w.heap.size + 1 + 1, 4, none⟩ (.int .i64 B.2.1)).setCell ⟨w.heap.size + 1 + 1, 5, none⟩ (.bool B.2.2)) (w.heap.size + 1 + 1) 39 #[.int .i64 A.1, .int .i64 A.2.1, .bool A.2.2, .int .i64 B.1, .int .i64 B.2.1, .bool B.2.2, .int .i64 0, .int .i64 0, .bool false]) := ⟨HX2.out.1.other3 (by omega) _ _ _, HX2.out.2.1.other3 (by omega) _ _ _, HX2.out.2.2.set3 3 _ _ _⟩
  have HZ2 : Hid (Below w.heap.size w (((w2.setCell ⟨w.heap.size + 1 + 1, 3, none⟩ (.int .i64 B.1)).setCell ⟨w.heap.size + 1 + 1, 4, none⟩ (.int .i64 B.2.1)).setCell ⟨w.heap.size + 1 + 1, 5, none⟩ (.bool B.2.2))) := ((HB2.out.setCell (by show w.heap.size ≤ w.heap.size + 1 + 1; omega) _).setCell (by show w.heap.size ≤ w.heap.size + 1 + 1; omega) _).setCell (by show w.heap.size ≤ w.heap.size + 1 + 1; omega) _
  clear HX2 HB2
  have q0 : (((w2.setCell ⟨w.heap.size + 1 + 1, 3, none⟩ (.int .i64 B.1)).setCell ⟨w.heap.size + 1 + 1, 4, none⟩ (.int .i64 B.2.1)).setCell ⟨w.heap.size + 1 + 1, 5, none⟩ (.bool B.2.2)).cell? ⟨w.heap.size, 6, none⟩ = some (.int .i64 C.1) := HY2.out.1.cell 6
  have q1 : (((w2.setCell ⟨w.heap.size + 1 + 1, 3, none⟩ (.int .i64 B.1)).setCell ⟨w.heap.size + 1 + 1, 4, none⟩ (.int .i64 B.2.1)).setCell ⟨w.heap.size + 1 + 1, 5, none⟩ (.bool B.2.2)).cell? ⟨w.heap.size, 7, none⟩ = some (.int .i64 C.2.1) := HY2.out.1.cell 7
  have q2 : (((w2.setCell ⟨w.heap.size + 1 + 1, 3, none⟩ (.int .i64 B.1)).setCell ⟨w.heap.size + 1 + 1, 4, none⟩ (.int .i64 B.2.1)).setCell ⟨w.heap.size + 1 + 1, 5, none⟩ (.bool B.2.2)).cell? ⟨w.heap.size, 8, none⟩ = some (.bool C.2.2) := HY2.out.1.cell 8
  go_wp2_with fail
  clear q0 q1 q2 a0 a1 a2 f0 f1 f2
  refine (C2.out _).mono ?_
  rintro e w3 ⟨rfl, hb3⟩
  have HX3 : Hid (Blk w3 w.heap.size 29 #[.int .i64 A.1, .int .i64 A.2.1, .bool A.2.2, .int .i64 B.1, .int .i64 B.2.1, .bool B.2.2, .int .i64 C.1, .int .i64 C.2.1, .bool C.2.2] ∧ Blk w3 (w.heap.size + 1) 39 #[.int .i64 0, .int .i64 0, .bool false, .int .i64 0, .int .i64 0, .bool false, .int .i64 0, .int .i64 0, .bool false] ∧ Blk w3 (w.heap.size + 1 + 1) 39 #[.int .i64 A.1, .int .i64 A.2.1, .bool A.2.2, .int .i64 B.1, .int .i64 B.2.1, .bool B.2.2, .int .i64 0, .int .i64 0, .bool false]) := ⟨HY2.out.1.on hb3 HY2.out.1.lt, HY2.out.2.1.on hb3 HY2.out.2.1.lt, HY2.out.2.2.on hb3 HY2.out.2.2.lt⟩
  have HB3 : Hid (Below w.heap.size w w3) := below_then HZ2.out hb3
  clear hb3 C2 HY2 HZ2
  have a0 : w3.cell? ⟨w.heap.size + 1 + 1, 6, none⟩ = some (.int .i64 0) := HX3.out.2.2.cell 6
  have f0 : w3.frozen? ⟨w.heap.size + 1 + 1, 6, none⟩ = false := HX3.out.2.2.free 6
  have a1 : w3.cell? ⟨w.heap.size + 1 + 1, 7, none⟩ = some (.int .i64 0) := HX3.out.2.2.cell 7
  have f1 : w3.frozen? ⟨w.heap.size + 1 + 1, 7, none⟩ = false := HX3.out.2.2.free 7
  have a2 : w3.cell? ⟨w.heap.size + 1 + 1, 8, none⟩ = some (.bool false) := HX3.out.2.2.cell 8
  have f2 : w3.frozen? ⟨w.heap.size + 1 + 1, 8, none⟩ = false := HX3.out.2.2.free 8
  have HY3 : Hid (Blk (((w3.setCell ⟨w.heap.size + 1 + 1, 6, none⟩ (.int .i64 C.1)).setCell ⟨w.heap.size + 1 + 1, 7, none⟩ (.int .i64 C.2.1)).setCell ⟨w.heap.size + 1 + 1, 8, none⟩ (.bool C.2.2)) w.heap.size 29 #[.int .i64 A.1, .int .i64 A.2.1, .bool A.2.2, .int .i64 B.1, .int .i64 B.2.1, .bool B.2.2, .int .i64 C.1, .int .i64 C.2.1, .bool C.2.2] ∧ Blk (((w3.setCell ⟨w.heap.size + 1 + 1, 6, none⟩ (.int .i64 C.1)).setCell ⟨w.heap.size + 1 + 1, 7, none⟩ (.int .i64 C.2.1)).setCell ⟨w.heap.size + 1 + 1, 8, none⟩ (.bool C.2.2)) (w.heap.size + 1) 39 #[.int .i64 0, .int .i64 0, .bool false, .int .i64 0, .int .i64 0, .bool false, .int .i64 0, .int .i64 0, .bool false] ∧ Blk (((w3.setCell ⟨w.heap.size + 1 + 1, 6, none⟩ (.int .i64 C.1)).setCell ⟨w.heap.size + 1 + 1, 7, none⟩ (.int .i64 C.2.1)).setCell ⟨w.heap.size + 1 + 1, 8, none⟩ (.bool C.2.2)) (w.heap.size + 1 + 1) 39 #[.int .i64 A.1, .int .i64 A.2.1, .bool A.2.2, .int .i64 B.1, .int .i64 B.2.1, .bool B.2.2, .int .i64 C.1, .int .i64 C.2.1, .bool C.2.2]) := ⟨HX3.out.1.other3 (by omega) _ _ _, HX3.out.2.1.other3 (by omega) _ _ _, HX3.out.2.2.set3 6 _ _ _⟩
  have HZ3 : Hid (Below w.heap.size w (((w3.setCell ⟨w.heap.size + 1 + 1, 6, none⟩ (.int .i64 C.1)).setCell ⟨w.heap.size + 1 + 1, 7, none⟩ (.int .i64 C.2.1)).setCell ⟨w.heap.size + 1 + 1, 8, none⟩ (.bool C.2.2))) := ((HB3.out.setCell (by show w.heap.size ≤ w.heap.size + 1 + 1; omega) _).setCell (by show w.heap.size ≤ w.heap.size + 1 + 1; omega) _).setCell (by show w.heap.size ≤ w.heap.size + 1 + 1; omega) _
  clear HX3 HB3
  have hs8 := HY3.out.2.2
  have hr8 := HY3.out.2.1
  have hb8 := HZ3.out
  clear HY3 HZ3
  go_wp2_with (first | (refine load_blk rfl rfl rfl hs8 Try.underlying39 infoPrI ?_) | (refine store_blk (cs' := #[.int .i64 A.1, .int .i64 A.2.1, .bool A.2.2, .int .i64 B.1, .int .i64 B.2.1, .bool B.2.2, .int .i64 C.1, .int .i64 C.2.1, .bool C.2.2]) rfl rfl rfl rfl rfl hr8 infoPrI rfl (ones9p A B C) ?_; intro V9 h9 hoth hbel; have hb9 := hbel _ _ (by omega) hb8; clear hoth hbel))
  refine bodyPost_ret_by (result_blk rfl rfl h9 Try.underlying39 infoPrI) rfl ⟨rfl, hb9⟩

end Go.Proofs.Ytbkfdafdchjakab
