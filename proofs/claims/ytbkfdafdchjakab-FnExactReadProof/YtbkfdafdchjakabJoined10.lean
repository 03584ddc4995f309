/-
  Texts of one's own, joined.
-/
import Derived.Test.YtbkfdafdchjakabJoined5
import Derived.Test.YtbkfdafdchjakabJoined9
import Derived.Test.YtbkfdafdchjakabPrfRdI

/-
  The comparison of two proofs.
  (-DROP-: what the seat lacks is left out.)
-/
namespace Go.Proofs.Ytbkfdafdchjakab
open Go.RowKit

set_option maxHeartbeats 3200000 in
set_option maxRecDepth 100000 in
theorem eqProof_same (A B C : Pt) (w : World) : Calls Try.prog 20 #[.agg (prfC A B C), .agg (prfC A B C)] w fun e w' => e = .returned (.bool true) ∧ Below w.heap.size w w' := by
  unfold prfC
  have C0 : Hid (∀ Z, Calls Try.prog 40 #[.agg #[.int .i64 A.1, .int .i64 A.2.1, .bool A.2.2], .agg #[.int .i64 A.1, .int .i64 A.2.1, .bool A.2.2]] Z fun e w' => e = .returned (.bool true) ∧ Below Z.heap.size Z w') := eqPoint_same A
  have C1 : Hid (∀ Z, Calls Try.prog 40 #[.agg #[.int .i64 B.1, .int .i64 B.2.1, .bool B.2.2], .agg #[.int .i64 B.1, .int .i64 B.2.1, .bool B.2.2]] Z fun e w' => e = .returned (.bool true) ∧ Below Z.heap.size Z w') := eqPoint_same B
  have C2 : Hid (∀ Z, Calls Try.prog 40 #[.agg #[.int .i64 C.1, .int .i64 C.2.1, .bool C.2.2], .agg #[.int .i64 C.1, .int .i64 C.2.1, .bool C.2.2]] Z fun e w' => e = .returned (.bool true) ∧ Below Z.heap.size Z w') := eqPoint_same C
  obtain ⟨W, hW, hb, hs, hs'⟩ := two_boxes w 39 39 #[.int .i64 A.1, .int .i64 A.2.1, .bool A.2.2, .int .i64 B.1, .int .i64 B.2.1, .bool B.2.2, .int .i64 C.1, .int .i64 C.2.1, .bool C.2.2] #[.int .i64 A.1, .int .i64 A.2.1, .bool A.2.2, .int .i64 B.1, .int .i64 B.2.1, .bool B.2.2, .int .i64 C.1, .int .i64 C.2.1, .bool C.2.2]
  have HB : Hid (Below w.heap.size w W) := hb
  have HS : Hid (Blk W w.heap.size 39 #[.int .i64 A.1, .int .i64 A.2.1, .bool A.2.2, .int .i64 B.1, .int .i64 B.2.1, .bool B.2.2, .int .i64 C.1, .int .i64 C.2.1, .bool C.2.2] ∧ Blk W (w.heap.size + 1) 39 #[.int .i64 A.1, .int .i64 A.2.1, .bool A.2.2, .int .i64 B.1, .int .i64 B.2.1, .bool B.2.2, .int .i64 C.1, .int .i64 C.2.1, .bool C.2.2]) := ⟨hs, hs'⟩
  clear hb hs hs'
  have q0_1 : W.cell? ⟨w.heap.size, 0, none⟩ = some (.int .i64 A.1) := (HS.out.1.on (Below.refl _ _) HS.out.1.lt).cell 0
  have q0_2 : W.cell? ⟨w.heap.size + 1, 0, none⟩ = some (.int .i64 A.1) := (HS.out.2.on (Below.refl _ _) HS.out.2.lt).cell 0
  have q1_1 : W.cell? ⟨w.heap.size, 1, none⟩ = some (.int .i64 A.2.1) := (HS.out.1.on (Below.refl _ _) HS.out.1.lt).cell 1
  have q1_2 : W.cell? ⟨w.heap.size + 1, 1, none⟩ = some (.int .i64 A.2.1) := (HS.out.2.on (Below.refl _ _) HS.out.2.lt).cell 1
  have q2_1 : W.cell? ⟨w.heap.size, 2, none⟩ = some (.bool A.2.2) := (HS.out.1.on (Below.refl _ _) HS.out.1.lt).cell 2
  have q2_2 : W.cell? ⟨w.heap.size + 1, 2, none⟩ = some (.bool A.2.2) := (HS.out.2.on (Below.refl _ _) HS.out.2.lt).cell 2
  go_enter Try.func20, Try.ntmps20
  go_wp2_with fail
  clear hW q0_1 q0_2 q1_1 q1_2 q2_1 q2_2
  refine (C0.out _).mono ?_
  rintro e w1 ⟨rfl, hb1⟩
  have HB1 : Hid (Below W.heap.size W w1) := hb1
  clear hb1
  have q3_1 : w1.cell? ⟨w.heap.size, 3, none⟩ = some (.int .i64 B.1) := (HS.out.1.on HB1.out HS.out.1.lt).cell 3
  have q3_2 : w1.cell? ⟨w.heap.size + 1, 3, none⟩ = some (.int .i64 B.1) := (HS.out.2.on HB1.out HS.out.2.lt).cell 3
  have q4_1 : w1.cell? ⟨w.heap.size, 4, none⟩ = some (.int .i64 B.2.1) := (HS.out.1.on HB1.out HS.out.1.lt).cell 4
  have q4_2 : w1.cell? ⟨w.heap.size + 1, 4, none⟩ = some (.int .i64 B.2.1) := (HS.out.2.on HB1.out HS.out.2.lt).cell 4
  have q5_1 : w1.cell? ⟨w.heap.size, 5, none⟩ = some (.bool B.2.2) := (HS.out.1.on HB1.out HS.out.1.lt).cell 5
  have q5_2 : w1.cell? ⟨w.heap.size + 1, 5, none⟩ = some (.bool B.2.2) := (HS.out.2.on HB1.out HS.out.2.lt).cell 5
  go_wp2_with fail
  clear q3_1 q3_2 q4_1 q4_2 q5_1 q5_2
  refine (C1.out _).mono ?_
  rintro e w2 ⟨rfl, hb2⟩
  have HB2 : Hid (Below W.heap.size W w2) := HB1.out.trans (hb2.mono HB1.out.size)
  clear hb2 HB1
  have q6_1 : w2.cell? ⟨w.heap.size, 6, none⟩ = some (.int .i64 C.1) := (HS.out.1.on HB2.out HS.out.1.lt).cell 6
  have q6_2 : w2.cell? ⟨w.heap.size + 1, 6, none⟩ = some (.int .i64 C.1) := (HS.out.2.on HB2.out HS.out.2.lt).cell 6
  have q7_1 : w2.cell? ⟨w.heap.size, 7, none⟩ = some (.int .i64 C.2.1) := (HS.out.1.on HB2.out HS.out.1.lt).cell 7
  have q7_2 : w2.cell? ⟨w.heap.size + 1, 7, none⟩ = some (.int .i64 C.2.1) := (HS.out.2.on HB2.out HS.out.2.lt).cell 7
  have q8_1 : w2.cell? ⟨w.heap.size, 8, none⟩ = some (.bool C.2.2) := (HS.out.1.on HB2.out HS.out.1.lt).cell 8
  have q8_2 : w2.cell? ⟨w.heap.size + 1, 8, none⟩ = some (.bool C.2.2) := (HS.out.2.on HB2.out HS.out.2.lt).cell 8
  go_wp2_with fail
  clear q6_1 q6_2 q7_1 q7_2 q8_1 q8_2
  refine (C2.out _).mono ?_
  rintro e w3 ⟨rfl, hb3⟩
  have HB3 : Hid (Below W.heap.size W w3) := HB2.out.trans (hb3.mono HB2.out.size)
  clear hb3 HB2
  go_wp2
  go_ret
  exact ⟨rfl, HB.out.trans (HB3.out.mono HB.out.size)⟩

end Go.Proofs.Ytbkfdafdchjakab

/-
  The walk of the exact law of a proof out of its text.
  (-DROP-: what the seat lacks is left out.)
-/
namespace Go.Proofs.Ytbkfdafdchjakab
open Go.RowKit

theorem infoPrR : (Try.prog.info? 39).map (·.size) = some 9 := by kernel_rfl

set_option maxHeartbeats 1600000 in
set_option maxRecDepth 100000 in
theorem lawReadProof (t : ByteArray) (ht : t.size ≤ maxLen) (w : World) :
    Calls Try.prog 6 #[.string t] w fun e w' => e = .returned (.bool true) ∧ Below w.heap.size w w' := by
  unfold maxLen at ht
  by_cases hb : 1048576 < t.size
  · have hb' : (1048576 : Int) < (t.size : Int) := by omega
    go_enter Try.func6, Try.ntmps6
    go_wp2
    go_ret
    exact ⟨rfl, Below.refl _ _⟩
  have hb' : ¬ (1048576 : Int) < (t.size : Int) := by omega
  have HS : Hid (∀ w, Calls Try.prog 24 #[.string t] w fun e w' => e = .returned (.tuple #[.agg (rdV t), .bool (rdOk t)]) ∧ Below w.heap.size w w') := sRdPrf_any t (by omega)
  have HI : Hid (∀ w, Calls Try.prog 25 #[.string t] w fun e w' => e = .returned (.tuple #[.agg (rdV t), .bool (rdOk t)]) ∧ Below w.heap.size w w') := iRdPrf_any t (by omega)
  unfold rdV at HS HI
  generalize rdAtP t 0 = A at HS HI
  generalize rdAtP t 1 = B at HS HI
  generalize rdAtP t 2 = C at HS HI
  generalize rdOk t = ok at HS HI
  have HE : Hid (∀ w, Calls Try.prog 20 #[.agg (prfC A B C), .agg (prfC A B C)] w fun e w' => e = .returned (.bool true) ∧ Below w.heap.size w w') := eqProof_same A B C
  go_enter Try.func6, Try.ntmps6
  go_wp2_with fail
  refine (HS.out _).mono ?_
  rintro e w2 ⟨rfl, hB2⟩
  obtain ⟨V, hV, hbV, h3⟩ := box1 w2 39 (prfC A B C)
  unfold prfC at hV
  unfold prfC
  go_wp2_with fail
  clear hV
  refine (HI.out _).mono ?_
  rintro e w4 ⟨rfl, hb4⟩
  have h34 := h3.on hb4 h3.lt
  have hB4 := below_then (below_then hB2 hbV) hb4
  clear hb4 h3 hbV hB2
  obtain ⟨V5, hV5, hb5, h45⟩ := box1 w4 39 (prfC A B C)
  have h35 := h34.on hb5 h34.lt
  have hB5 := below_then hB4 hb5
  clear h34 hB4 hb5
  unfold prfC at hV5
  unfold prfC
  go_wp2_with (first | (refine load_blk rfl rfl rfl h45 Try.underlying39 infoPrR ?_) | (refine load_blk rfl rfl rfl h35 Try.underlying39 infoPrR ?_))
  refine (HE.out _).mono ?_
  rintro e w5 ⟨rfl, hb5⟩
  have hbb := below_then hB5 hb5
  clear h45 h35 hB5 hb5
  go_wp2
  go_ret
  exact ⟨rfl, hbb⟩

end Go.Proofs.Ytbkfdafdchjakab
