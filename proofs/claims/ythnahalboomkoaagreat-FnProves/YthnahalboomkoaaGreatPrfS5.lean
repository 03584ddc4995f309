/-
  The walk of the specification's text of a proof.
  (-DROP-: what the seat lacks is left out.)
-/
import Derived.Test.YthnahalboomkoaaGreatJoined5
import Derived.Test.YthnahalboomkoaaGreatJoined4
import Derived.Test.YthnahalboomkoaaGreatJoined6

namespace Go.Proofs.YthnahalboomkoaaGreat
open Go.RowKit

theorem ptText_small (P : Pt) : (ptText P).size ≤ 3 := by
  show (ptBytes P).toArray.size ≤ 3
  unfold ptBytes
  split
  · split <;> simp
  · simp
/-- The cells of a proof. -/
def prfC (A B C : Pt) : Array Value := #[.int .i64 A.1, .int .i64 A.2.1, .bool A.2.2, .int .i64 B.1, .int .i64 B.2.1, .bool B.2.2, .int .i64 C.1, .int .i64 C.2.1, .bool C.2.2]
def prfIn (A B C : Pt) : Bool := inGB A && (inGB B && inGB C)
def prfText (A B C : Pt) : ByteArray := if prfIn A B C then ptText A ++ ptText B ++ ptText C else ByteArray.empty

set_option maxHeartbeats 3200000 in
set_option maxRecDepth 100000 in
theorem sProofText_any (A B C : Pt) (w : World) : Calls Tryz.prog 98 #[.agg (prfC A B C)] w fun e w' => e = .returned (.tuple #[.string (prfText A B C), .bool (prfIn A B C)]) ∧ Below w.heap.size w w' := by
  obtain ⟨W, hW, hb, hs⟩ := box1 w 44 (prfC A B C)
  have HB : Hid (Below w.heap.size w W) := hb
  have HI : Hid (prfIn A B C = (inGB A && (inGB B && inGB C))) := rfl
  have HT : Hid (prfText A B C = if prfIn A B C then ptText A ++ ptText B ++ ptText C else ByteArray.empty) := rfl
  have CA : Hid (∀ X, Calls Tryz.prog 101 #[.agg #[.int .i64 A.1, .int .i64 A.2.1, .bool A.2.2]] X fun e w' => e = .returned (.bool (inGB A)) ∧ Below X.heap.size X w') := sInG_any A
  have DA : Hid (∀ X, Calls Tryz.prog 160 #[.agg #[.int .i64 A.1, .int .i64 A.2.1, .bool A.2.2]] X fun e w' => e = .returned (.string (ptText A)) ∧ Below X.heap.size X w') := sPText_any A
  have CB : Hid (∀ X, Calls Tryz.prog 101 #[.agg #[.int .i64 B.1, .int .i64 B.2.1, .bool B.2.2]] X fun e w' => e = .returned (.bool (inGB B)) ∧ Below X.heap.size X w') := sInG_any B
  have DB : Hid (∀ X, Calls Tryz.prog 160 #[.agg #[.int .i64 B.1, .int .i64 B.2.1, .bool B.2.2]] X fun e w' => e = .returned (.string (ptText B)) ∧ Below X.heap.size X w') := sPText_any B
  have CC : Hid (∀ X, Calls Tryz.prog 101 #[.agg #[.int .i64 C.1, .int .i64 C.2.1, .bool C.2.2]] X fun e w' => e = .returned (.bool (inGB C)) ∧ Below X.heap.size X w') := sInG_any C
  have DC : Hid (∀ X, Calls Tryz.prog 160 #[.agg #[.int .i64 C.1, .int .i64 C.2.1, .bool C.2.2]] X fun e w' => e = .returned (.string (ptText C)) ∧ Below X.heap.size X w') := sPText_any C
  have HS : Hid (Blk W w.heap.size 44 (prfC A B C)) := hs
  unfold prfC at *
  clear hb hs
  have q0 : W.cell? ⟨w.heap.size, 0, none⟩ = some (.int .i64 A.1) := HS.out.cell 0
  have q1 : W.cell? ⟨w.heap.size, 1, none⟩ = some (.int .i64 A.2.1) := HS.out.cell 1
  have q2 : W.cell? ⟨w.heap.size, 2, none⟩ = some (.bool A.2.2) := HS.out.cell 2
  go_enter Tryz.func98, Tryz.ntmps98
  go_wp2_with fail
  clear hW q0 q1 q2
  refine (CA.out _).mono ?_
  rintro e w1 ⟨rfl, hb1⟩
  have HB1 : Hid (Below W.heap.size W w1) := hb1
  clear hb1
  cases h0 : inGB A
  · have HE : Hid (prfIn A B C = false) := by show _ = _; rw [HI.out, h0]; simp
    have HF : Hid (prfText A B C = ByteArray.empty) := by show _ = _; rw [HT.out, HE.out]; rfl
    go_wp2
    go_ret2
    exact ⟨by rw [HF.out, HE.out]; rfl, HB.out.trans (HB1.out.mono HB.out.size)⟩
  · skip
    have q3 : w1.cell? ⟨w.heap.size, 3, none⟩ = some (.int .i64 B.1) := (HS.out.on HB1.out HS.out.lt).cell 3
    have q4 : w1.cell? ⟨w.heap.size, 4, none⟩ = some (.int .i64 B.2.1) := (HS.out.on HB1.out HS.out.lt).cell 4
    have q5 : w1.cell? ⟨w.heap.size, 5, none⟩ = some (.bool B.2.2) := (HS.out.on HB1.out HS.out.lt).cell 5
    go_wp2_with fail
    clear q3 q4 q5
    refine (CB.out _).mono ?_
    rintro e w2 ⟨rfl, hb2⟩
    have HB2 : Hid (Below W.heap.size W w2) := HB1.out.trans (hb2.mono HB1.out.size)
    clear hb2
    cases h1 : inGB B
    · have HE : Hid (prfIn A B C = false) := by show _ = _; rw [HI.out, h0, h1]; simp
      have HF : Hid (prfText A B C = ByteArray.empty) := by show _ = _; rw [HT.out, HE.out]; rfl
      go_wp2
      go_ret2
      exact ⟨by rw [HF.out, HE.out]; rfl, HB.out.trans (HB2.out.mono HB.out.size)⟩
    · skip
      have q6 : w2.cell? ⟨w.heap.size, 6, none⟩ = some (.int .i64 C.1) := (HS.out.on HB2.out HS.out.lt).cell 6
      have q7 : w2.cell? ⟨w.heap.size, 7, none⟩ = some (.int .i64 C.2.1) := (HS.out.on HB2.out HS.out.lt).cell 7
      have q8 : w2.cell? ⟨w.heap.size, 8, none⟩ = some (.bool C.2.2) := (HS.out.on HB2.out HS.out.lt).cell 8
      go_wp2_with fail
      clear q6 q7 q8
      refine (CC.out _).mono ?_
      rintro e w3 ⟨rfl, hb3⟩
      have HB3 : Hid (Below W.heap.size W w3) := HB2.out.trans (hb3.mono HB2.out.size)
      clear hb3
      cases h2 : inGB C
      · have HE : Hid (prfIn A B C = false) := by show _ = _; rw [HI.out, h0, h1, h2]; simp
        have HF : Hid (prfText A B C = ByteArray.empty) := by show _ = _; rw [HT.out, HE.out]; rfl
        go_wp2
        go_ret2
        exact ⟨by rw [HF.out, HE.out]; rfl, HB.out.trans (HB3.out.mono HB.out.size)⟩
      · skip
        have HE : Hid (prfIn A B C = true) := by show _ = _; rw [HI.out, h0, h1, h2]; rfl
        have HF : Hid (prfText A B C = ptText A ++ ptText B ++ ptText C) := by show _ = _; rw [HT.out, HE.out]; rfl
        have LA : (ptText A).size ≤ 3 := ptText_small A
        have LB : (ptText B).size ≤ 3 := ptText_small B
        have LC : (ptText C).size ≤ 3 := ptText_small C
        have T0 : Below W.heap.size W w3.drew := HB3.out.drew
        go_wp2_with fail
        generalize ptText A = tA at *
        generalize ptText B = tB at *
        generalize ptText C = tC at *
        refine wp_region_ord [(0, false), (1, false), (3, false), (4, false), (7, false), (8, false), (2, true), (5, true), (6, false), (9, true), (10, false), (11, false), (12, false)] (fun wz => Below W.heap.size W wz) mixes (by kernel_rfl) T0 ?_
        repeat (refine ord_float rfl rfl (fun K hK => ⟨_, (fun w' hw => by have q0 := (HS.out.on hw HS.out.lt).cell 0; have q1 :=  (HS.out.on hw HS.out.lt).cell 1; have q2 :=  (HS.out.on hw HS.out.lt).cell 2; have q3 :=  (HS.out.on hw HS.out.lt).cell 3; have q4 :=  (HS.out.on hw HS.out.lt).cell 4; have q5 :=  (HS.out.on hw HS.out.lt).cell 5; have q6 :=  (HS.out.on hw HS.out.lt).cell 6; have q7 :=  (HS.out.on hw HS.out.lt).cell 7; have q8 :=  (HS.out.on hw HS.out.lt).cell 8; go_simp; exact rfl), ?_⟩); go_simp; refine hK _ ?_; clear hK K)
        refine ord_call rfl rfl (fun K hK => ⟨_, _, (by go_simp <;> first | exact rfl | exact ⟨rfl, rfl⟩), ?_⟩)
        refine (DA.out _).mono ?_
        rintro e u1 ⟨rfl, hu1⟩
        have T1 := below_then T0 hu1
        refine ⟨_, rfl, T1, ?_⟩
        go_simp
        refine hK _ _ ?_
        clear hK K
        refine ord_call rfl rfl (fun K hK => ⟨_, _, (by go_simp <;> first | exact rfl | exact ⟨rfl, rfl⟩), ?_⟩)
        refine (DB.out _).mono ?_
        rintro e u2 ⟨rfl, hu2⟩
        have T2 := below_then T1 hu2
        refine ⟨_, rfl, T2, ?_⟩
        go_simp
        refine hK _ _ ?_
        clear hK K
        have hl1 : (tA ++ tB).size ≤ 9223372036854775807 := by rw [ByteArray.size_append]; omega
        have hl2 : (tA ++ tB ++ tC).size ≤ 9223372036854775807 := by rw [ByteArray.size_append, ByteArray.size_append]; omega
        refine ord_float rfl rfl (fun K hK => ⟨.string (tA ++ tB), (fun w' hw => by go_simp <;> first | rfl | omega), ?_⟩)
        go_simp
        refine hK _ ?_
        clear hK K
        refine ord_call rfl rfl (fun K hK => ⟨_, _, (by go_simp <;> first | exact rfl | exact ⟨rfl, rfl⟩), ?_⟩)
        refine (DC.out _).mono ?_
        rintro e u3 ⟨rfl, hu3⟩
        have T3 := below_then T2 hu3
        refine ⟨_, rfl, T3, ?_⟩
        go_simp
        refine hK _ _ ?_
        clear hK K
        refine ord_float rfl rfl (fun K hK => ⟨.string (tA ++ tB ++ tC), (fun w' hw => by go_simp <;> first | rfl | omega), ?_⟩)
        go_simp
        refine hK _ ?_
        clear hK K
        repeat (refine ord_float rfl rfl (fun K hK => ⟨_, (fun w' hw => by have q0 := (HS.out.on hw HS.out.lt).cell 0; have q1 :=  (HS.out.on hw HS.out.lt).cell 1; have q2 :=  (HS.out.on hw HS.out.lt).cell 2; have q3 :=  (HS.out.on hw HS.out.lt).cell 3; have q4 :=  (HS.out.on hw HS.out.lt).cell 4; have q5 :=  (HS.out.on hw HS.out.lt).cell 5; have q6 :=  (HS.out.on hw HS.out.lt).cell 6; have q7 :=  (HS.out.on hw HS.out.lt).cell 7; have q8 :=  (HS.out.on hw HS.out.lt).cell 8; go_simp; exact rfl), ?_⟩); go_simp; refine hK _ ?_; clear hK K)
        refine ord_nil ?_
        go_wp2
        go_ret2
        exact ⟨by rw [HF.out, HE.out]; rfl, HB.out.trans (T3.mono HB.out.size)⟩

end Go.Proofs.YthnahalboomkoaaGreat
