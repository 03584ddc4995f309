/-
  The walk of the specification's word on whether a proof is right.
  (-DROP-: what the seat lacks is left out.)
-/
import Derived.Test.YthnahalboomkoaaGreatJoined18
import Derived.Test.YthnahalboomkoaaGreatPrfS5
import Derived.Test.YthnahalboomkoaaGreatJoined26
import Derived.Test.YthnahalboomkoaaGreatJoined25
import Derived.Test.YthnahalboomkoaaGreatJoined11

namespace Go.Proofs.YthnahalboomkoaaGreat
open Go.RowKit

/-- Whether a proof may be looked at. -/
def prfMay (n : Nat) (m : List Int) (X Y Z : Pt) : Bool := ((((((inGB X && inGB Y) && inGB Z) && !X.2.2) && !Y.2.2) && decide (n = m.length + 1)) && wide m (m.length : Int))
def prfRight (A B G D I X Y Z : Pt) : Bool := decide (pairS X Y = tm (tm (pairS A B) (pairS I G)) (pairS Z D))
def prfOk (A B G D : Pt) (f : Nat → Pt) (n : Nat) (m : List Int) (X Y Z : Pt) : Bool := prfMay n m X Y Z && prfRight A B G D (inSum f n m) X Y Z

set_option maxHeartbeats 6400000 in
set_option maxRecDepth 100000 in
theorem sProofOk_any (A B G D : Pt) (a : Option Addr) (n cp : Nat) (hn : n ≤ 1048576) (f : Nat → Pt) (am : Option Addr) (cm : Nat) (m : List Int) (hm : m.length ≤ 1048576) (X Y Z : Pt) (w : World) (hA : PtsAt w a n w.heap.size f) (hB : IntsAt w am m.length w.heap.size (fun j => m.getD j 0)) :
    Calls Tryz.prog 31 #[.agg (keyC A B G D (.slice a n cp)), .slice am m.length cm, .agg (prfC X Y Z)] w fun e w' => e = .returned (.bool (prfOk A B G D f n m X Y Z)) ∧ Below w.heap.size w w' := by
  obtain ⟨W, hW, hb, hs, hr⟩ := boxes1r w 38 44 (keyC A B G D (.slice a n cp)) (prfC X Y Z)
  have HB : Hid (Below w.heap.size w W) := hb
  have HS : Hid (Blk W w.heap.size 38 #[.int .i64 A.1, .int .i64 A.2.1, .bool A.2.2, .int .i64 B.1, .int .i64 B.2.1, .bool B.2.2, .int .i64 G.1, .int .i64 G.2.1, .bool G.2.2, .int .i64 D.1, .int .i64 D.2.1, .bool D.2.2, .slice a n cp]) := hs
  have HR : Hid (Blk W (w.heap.size + 1) 44 #[.int .i64 X.1, .int .i64 X.2.1, .bool X.2.2, .int .i64 Y.1, .int .i64 Y.2.1, .bool Y.2.2, .int .i64 Z.1, .int .i64 Z.2.1, .bool Z.2.2]) := hr
  have CI : Hid (∀ V, Below w.heap.size w V → Calls Tryz.prog 33 #[.agg #[.int .i64 A.1, .int .i64 A.2.1, .bool A.2.2, .int .i64 B.1, .int .i64 B.2.1, .bool B.2.2, .int .i64 G.1, .int .i64 G.2.1, .bool G.2.2, .int .i64 D.1, .int .i64 D.2.1, .bool D.2.2, .slice a n cp], .slice am m.length cm] V fun e w' => e = .returned (pv (inSum f n m)) ∧ Below V.heap.size V w') := fun V hV => sInput_any A B G D a n cp hn f am cm m hm V ((hA.on hV).wide hV.size) ((hB.on hV).wide hV.size)
  have CW : Hid (∀ V, Below w.heap.size w V → Calls Tryz.prog 102 #[.slice am m.length cm, .int .i64 (m.length : Int)] V fun e w' => e = .returned (.bool (wide m (m.length : Int))) ∧ Below V.heap.size V w') := fun V hV => sWide_any am cm m (m.length : Int) (by omega) V ((hB.on hV).wide hV.size)
  have HOK : Hid (prfOk A B G D f n m X Y Z = (((((((inGB X && inGB Y) && inGB Z) && !X.2.2) && !Y.2.2) && decide (n = m.length + 1)) && wide m (m.length : Int)) && prfRight A B G D (inSum f n m) X Y Z)) := rfl
  have HRG : Hid (prfRight A B G D (inSum f n m) X Y Z = decide (pairS X Y = tm (tm (pairS A B) (pairS (inSum f n m) G)) (pairS Z D))) := rfl
  have CX : Hid (∀ V, Calls Tryz.prog 101 #[.agg #[.int .i64 X.1, .int .i64 X.2.1, .bool X.2.2]] V fun e w' => e = .returned (.bool (inGB X)) ∧ Below V.heap.size V w') := sInG_any X
  have CY : Hid (∀ V, Calls Tryz.prog 101 #[.agg #[.int .i64 Y.1, .int .i64 Y.2.1, .bool Y.2.2]] V fun e w' => e = .returned (.bool (inGB Y)) ∧ Below V.heap.size V w') := sInG_any Y
  have CZ : Hid (∀ V, Calls Tryz.prog 101 #[.agg #[.int .i64 Z.1, .int .i64 Z.2.1, .bool Z.2.2]] V fun e w' => e = .returned (.bool (inGB Z)) ∧ Below V.heap.size V w') := sInG_any Z
  generalize inSum f n m = J at CI HOK HRG
  have P1 : Hid (∀ V, Calls Tryz.prog 104 #[.agg #[.int .i64 A.1, .int .i64 A.2.1, .bool A.2.2], .agg #[.int .i64 B.1, .int .i64 B.2.1, .bool B.2.2]] V fun e w' => e = .returned (tv (pairS A B)) ∧ Below V.heap.size V w') := sPairing_any A B
  have P2 : Hid (∀ V, Calls Tryz.prog 104 #[.agg #[.int .i64 J.1, .int .i64 J.2.1, .bool J.2.2], .agg #[.int .i64 G.1, .int .i64 G.2.1, .bool G.2.2]] V fun e w' => e = .returned (tv (pairS J G)) ∧ Below V.heap.size V w') := sPairing_any J G
  have P3 : Hid (∀ V, Calls Tryz.prog 104 #[.agg #[.int .i64 Z.1, .int .i64 Z.2.1, .bool Z.2.2], .agg #[.int .i64 D.1, .int .i64 D.2.1, .bool D.2.2]] V fun e w' => e = .returned (tv (pairS Z D)) ∧ Below V.heap.size V w') := sPairing_any Z D
  have P4 : Hid (∀ V, Calls Tryz.prog 104 #[.agg #[.int .i64 X.1, .int .i64 X.2.1, .bool X.2.2], .agg #[.int .i64 Y.1, .int .i64 Y.2.1, .bool Y.2.2]] V fun e w' => e = .returned (tv (pairS X Y)) ∧ Below V.heap.size V w') := sPairing_any X Y
  have M1 : Hid (∀ V, Calls Tryz.prog 103 #[tv (pairS A B), tv (pairS J G)] V fun e w' => e = .returned (tv (tm (pairS A B) (pairS J G))) ∧ Below V.heap.size V w') := sMul2_any _ _
  have M2 : Hid (∀ V, Calls Tryz.prog 103 #[tv (tm (pairS A B) (pairS J G)), tv (pairS Z D)] V fun e w' => e = .returned (tv (tm (tm (pairS A B) (pairS J G)) (pairS Z D))) ∧ Below V.heap.size V w') := sMul2_any _ _
  generalize tm (tm (pairS A B) (pairS J G)) (pairS Z D) = t5 at *
  generalize tm (pairS A B) (pairS J G) = t4 at *
  generalize pairS A B = t1 at *
  generalize pairS J G = t2 at *
  generalize pairS Z D = t3 at *
  generalize pairS X Y = t6 at *
  unfold pv at CI
  unfold tv at P1 P2 P3 P4 M1 M2
  unfold keyC prfC at *
  clear hA hB hb hs hr
  generalize hml : m.length = ml at *
  clear hml
  have hs1 : w.heap.size + 1 < W.heap.size := HR.out.lt
  have q0 : W.cell? ⟨w.heap.size + 1, 0, none⟩ = some (.int .i64 X.1) := HR.out.cell 0
  have q1 : W.cell? ⟨w.heap.size + 1, 1, none⟩ = some (.int .i64 X.2.1) := HR.out.cell 1
  have q2 : W.cell? ⟨w.heap.size + 1, 2, none⟩ = some (.bool X.2.2) := HR.out.cell 2
  go_enter Tryz.func31, Tryz.ntmps31
  go_wp2_with fail
  clear hW q0 q1 q2
  refine (CX.out _).mono ?_
  rintro e w1 ⟨rfl, hb1⟩
  have HB1 : Hid (Below W.heap.size W w1) := hb1
  clear hb1
  cases h0 : inGB X
  · have HE : Hid (prfOk A B G D f n m X Y Z = false) := by show _ = _; rw [HOK.out, h0]; simp
    go_wp2
    go_ret
    exact ⟨by rw [HE.out]; rfl, HB.out.trans (HB1.out.mono HB.out.size)⟩
  · skip
    have q3 : w1.cell? ⟨w.heap.size + 1, 3, none⟩ = some (.int .i64 Y.1) := (HR.out.on HB1.out HR.out.lt).cell 3
    have q4 : w1.cell? ⟨w.heap.size + 1, 4, none⟩ = some (.int .i64 Y.2.1) := (HR.out.on HB1.out HR.out.lt).cell 4
    have q5 : w1.cell? ⟨w.heap.size + 1, 5, none⟩ = some (.bool Y.2.2) := (HR.out.on HB1.out HR.out.lt).cell 5
    go_wp2_with fail
    clear q3 q4 q5
    refine (CY.out _).mono ?_
    rintro e w2 ⟨rfl, hb2⟩
    have HB2 : Hid (Below W.heap.size W w2) := HB1.out.trans (hb2.mono HB1.out.size)
    clear hb2
    cases h1 : inGB Y
    · have HE : Hid (prfOk A B G D f n m X Y Z = false) := by show _ = _; rw [HOK.out, h0, h1]; simp
      go_wp2
      go_ret
      exact ⟨by rw [HE.out]; rfl, HB.out.trans (HB2.out.mono HB.out.size)⟩
    · skip
      have q6 : w2.cell? ⟨w.heap.size + 1, 6, none⟩ = some (.int .i64 Z.1) := (HR.out.on HB2.out HR.out.lt).cell 6
      have q7 : w2.cell? ⟨w.heap.size + 1, 7, none⟩ = some (.int .i64 Z.2.1) := (HR.out.on HB2.out HR.out.lt).cell 7
      have q8 : w2.cell? ⟨w.heap.size + 1, 8, none⟩ = some (.bool Z.2.2) := (HR.out.on HB2.out HR.out.lt).cell 8
      go_wp2_with fail
      clear q6 q7 q8
      refine (CZ.out _).mono ?_
      rintro e w3 ⟨rfl, hb3⟩
      have HB3 : Hid (Below W.heap.size W w3) := HB2.out.trans (hb3.mono HB2.out.size)
      clear hb3
      cases h2 : inGB Z
      · have HE : Hid (prfOk A B G D f n m X Y Z = false) := by show _ = _; rw [HOK.out, h0, h1, h2]; simp
        go_wp2
        go_ret
        exact ⟨by rw [HE.out]; rfl, HB.out.trans (HB3.out.mono HB.out.size)⟩
      · skip
        have q2 : w3.cell? ⟨w.heap.size + 1, 2, none⟩ = some (.bool X.2.2) := (HR.out.on HB3.out HR.out.lt).cell 2
        have q5 : w3.cell? ⟨w.heap.size + 1, 5, none⟩ = some (.bool Y.2.2) := (HR.out.on HB3.out HR.out.lt).cell 5
        have qk : w3.cell? ⟨w.heap.size, 12, none⟩ = some (.slice a n cp) := (HS.out.on HB3.out HS.out.lt).cell 12
        cases h3 : X.2.2
        · skip
          rw [h3] at q2
          cases h4 : Y.2.2
          · skip
            rw [h4] at q5
            have hwr : IntKind.i64.wrap ((ml : Int) + 1) = (ml : Int) + 1 := IntWalk.i64_in _ (by omega)
            by_cases hnm : n = ml + 1
            · skip
              have hnm' : (n : Int) = (ml : Int) + 1 := by omega
              have HD : Hid (decide (n = ml + 1) = true) := decide_eq_true hnm
              clear hnm
              go_wp2_with fail
              refine (CW.out _ (HB.out.trans (HB3.out.mono HB.out.size))).mono ?_
              rintro e w4 ⟨rfl, hb4⟩
              have HB4 : Hid (Below W.heap.size W w4) := HB3.out.trans (hb4.mono HB3.out.size)
              clear hb4 q2 q5 qk hnm'
              cases h6 : wide m (ml : Int)
              · have HE : Hid (prfOk A B G D f n m X Y Z = false) := by show _ = _; rw [HOK.out, h0, h1, h2, h3, h4, HD.out, h6]; simp
                go_wp2
                go_ret
                exact ⟨by rw [HE.out]; rfl, HB.out.trans (HB4.out.mono HB.out.size)⟩
              · skip
                have HE : Hid (prfOk A B G D f n m X Y Z = decide (t6 = t5)) := by show _ = _; rw [HOK.out, h0, h1, h2, h3, h4, HD.out, h6, HRG.out]; simp
                have hs4 := HS.out.on HB4.out HS.out.lt
                have hr4 := HR.out.on HB4.out HR.out.lt
                have hB4w : Below w.heap.size w w4 := HB.out.trans (HB4.out.mono HB.out.size)
                go_wp2_with fail
                refine wp_region_made 18 mixes (by kernel_rfl) rfl rfl (fun a w => by go_simp <;> rfl) ?_
                simp only [List.take_succ_cons, List.take_zero, List.drop_succ_cons, List.drop_zero]
                repeat (refine bel_step rfl (fun K hK => ⟨_, (fun w' hw => by have q0 := (hs4.on hw hs4.lt).cell 0; have q1 := (hs4.on hw hs4.lt).cell 1; have q2 := (hs4.on hw hs4.lt).cell 2; have q3 := (hs4.on hw hs4.lt).cell 3; have q4 := (hs4.on hw hs4.lt).cell 4; have q5 := (hs4.on hw hs4.lt).cell 5; have q6 := (hs4.on hw hs4.lt).cell 6; have q7 := (hs4.on hw hs4.lt).cell 7; have q8 := (hs4.on hw hs4.lt).cell 8; have q9 := (hs4.on hw hs4.lt).cell 9; have q10 := (hs4.on hw hs4.lt).cell 10; have q11 := (hs4.on hw hs4.lt).cell 11; have q12 := (hs4.on hw hs4.lt).cell 12; have q13 := (hr4.on hw hr4.lt).cell 0; have q14 := (hr4.on hw hr4.lt).cell 1; have q15 := (hr4.on hw hr4.lt).cell 2; have q16 := (hr4.on hw hr4.lt).cell 3; have q17 := (hr4.on hw hr4.lt).cell 4; have q18 := (hr4.on hw hr4.lt).cell 5; have q19 := (hr4.on hw hr4.lt).cell 6; have q20 := (hr4.on hw hr4.lt).cell 7; have q21 := (hr4.on hw hr4.lt).cell 8; go_simp; exact rfl), ?_⟩); go_simp; refine hK _ ?_; clear hK K)
                refine bel_call rfl (fun K hK => ⟨_, _, _, (fun w' => by go_simp <;> first | exact rfl | exact ⟨rfl, rfl⟩), (fun w' hw => P1.out _), ?_⟩); go_simp; refine hK _ ?_; clear hK K
                repeat (refine bel_step rfl (fun K hK => ⟨_, (fun w' hw => by have q0 := (hs4.on hw hs4.lt).cell 0; have q1 := (hs4.on hw hs4.lt).cell 1; have q2 := (hs4.on hw hs4.lt).cell 2; have q3 := (hs4.on hw hs4.lt).cell 3; have q4 := (hs4.on hw hs4.lt).cell 4; have q5 := (hs4.on hw hs4.lt).cell 5; have q6 := (hs4.on hw hs4.lt).cell 6; have q7 := (hs4.on hw hs4.lt).cell 7; have q8 := (hs4.on hw hs4.lt).cell 8; have q9 := (hs4.on hw hs4.lt).cell 9; have q10 := (hs4.on hw hs4.lt).cell 10; have q11 := (hs4.on hw hs4.lt).cell 11; have q12 := (hs4.on hw hs4.lt).cell 12; have q13 := (hr4.on hw hr4.lt).cell 0; have q14 := (hr4.on hw hr4.lt).cell 1; have q15 := (hr4.on hw hr4.lt).cell 2; have q16 := (hr4.on hw hr4.lt).cell 3; have q17 := (hr4.on hw hr4.lt).cell 4; have q18 := (hr4.on hw hr4.lt).cell 5; have q19 := (hr4.on hw hr4.lt).cell 6; have q20 := (hr4.on hw hr4.lt).cell 7; have q21 := (hr4.on hw hr4.lt).cell 8; go_simp; exact rfl), ?_⟩); go_simp; refine hK _ ?_; clear hK K)
                refine bel_call rfl (fun K hK => ⟨_, _, _, (fun w' => by go_simp <;> first | exact rfl | exact ⟨rfl, rfl⟩), (fun w' hw => CI.out _ (hB4w.trans (hw.mono hB4w.size))), ?_⟩); go_simp; refine hK _ ?_; clear hK K
                repeat (refine bel_step rfl (fun K hK => ⟨_, (fun w' hw => by have q0 := (hs4.on hw hs4.lt).cell 0; have q1 := (hs4.on hw hs4.lt).cell 1; have q2 := (hs4.on hw hs4.lt).cell 2; have q3 := (hs4.on hw hs4.lt).cell 3; have q4 := (hs4.on hw hs4.lt).cell 4; have q5 := (hs4.on hw hs4.lt).cell 5; have q6 := (hs4.on hw hs4.lt).cell 6; have q7 := (hs4.on hw hs4.lt).cell 7; have q8 := (hs4.on hw hs4.lt).cell 8; have q9 := (hs4.on hw hs4.lt).cell 9; have q10 := (hs4.on hw hs4.lt).cell 10; have q11 := (hs4.on hw hs4.lt).cell 11; have q12 := (hs4.on hw hs4.lt).cell 12; have q13 := (hr4.on hw hr4.lt).cell 0; have q14 := (hr4.on hw hr4.lt).cell 1; have q15 := (hr4.on hw hr4.lt).cell 2; have q16 := (hr4.on hw hr4.lt).cell 3; have q17 := (hr4.on hw hr4.lt).cell 4; have q18 := (hr4.on hw hr4.lt).cell 5; have q19 := (hr4.on hw hr4.lt).cell 6; have q20 := (hr4.on hw hr4.lt).cell 7; have q21 := (hr4.on hw hr4.lt).cell 8; go_simp; exact rfl), ?_⟩); go_simp; refine hK _ ?_; clear hK K)
                refine bel_call rfl (fun K hK => ⟨_, _, _, (fun w' => by go_simp <;> first | exact rfl | exact ⟨rfl, rfl⟩), (fun w' hw => P2.out _), ?_⟩); go_simp; refine hK _ ?_; clear hK K
                refine bel_call rfl (fun K hK => ⟨_, _, _, (fun w' => by go_simp <;> first | exact rfl | exact ⟨rfl, rfl⟩), (fun w' hw => M1.out _), ?_⟩); go_simp; refine hK _ ?_; clear hK K
                repeat (refine bel_step rfl (fun K hK => ⟨_, (fun w' hw => by have q0 := (hs4.on hw hs4.lt).cell 0; have q1 := (hs4.on hw hs4.lt).cell 1; have q2 := (hs4.on hw hs4.lt).cell 2; have q3 := (hs4.on hw hs4.lt).cell 3; have q4 := (hs4.on hw hs4.lt).cell 4; have q5 := (hs4.on hw hs4.lt).cell 5; have q6 := (hs4.on hw hs4.lt).cell 6; have q7 := (hs4.on hw hs4.lt).cell 7; have q8 := (hs4.on hw hs4.lt).cell 8; have q9 := (hs4.on hw hs4.lt).cell 9; have q10 := (hs4.on hw hs4.lt).cell 10; have q11 := (hs4.on hw hs4.lt).cell 11; have q12 := (hs4.on hw hs4.lt).cell 12; have q13 := (hr4.on hw hr4.lt).cell 0; have q14 := (hr4.on hw hr4.lt).cell 1; have q15 := (hr4.on hw hr4.lt).cell 2; have q16 := (hr4.on hw hr4.lt).cell 3; have q17 := (hr4.on hw hr4.lt).cell 4; have q18 := (hr4.on hw hr4.lt).cell 5; have q19 := (hr4.on hw hr4.lt).cell 6; have q20 := (hr4.on hw hr4.lt).cell 7; have q21 := (hr4.on hw hr4.lt).cell 8; go_simp; exact rfl), ?_⟩); go_simp; refine hK _ ?_; clear hK K)
                refine bel_call rfl (fun K hK => ⟨_, _, _, (fun w' => by go_simp <;> first | exact rfl | exact ⟨rfl, rfl⟩), (fun w' hw => P3.out _), ?_⟩); go_simp; refine hK _ ?_; clear hK K
                refine bel_call rfl (fun K hK => ⟨_, _, _, (fun w' => by go_simp <;> first | exact rfl | exact ⟨rfl, rfl⟩), (fun w' hw => M2.out _), ?_⟩); go_simp; refine hK _ ?_; clear hK K
                refine bel_nil ?_
                intro gn w' hw hgn hnew
                refine frame_out fun K hK => ?_
                go_simp
                refine hK _ ?_
                clear hK K
                refine store_blk (cs' := #[.int .i64 t5.1, .int .i64 t5.2]) rfl rfl rfl rfl rfl hnew infoT rfl (ones2 _ _) ?_
                intro V h7 hoth hbel
                have hr5 := hoth _ _ _ (by have := hr4.lt; omega) (hr4.on hw hr4.lt)
                have hB5 : Below w.heap.size w V := hbel _ _ (by have := hB4w.size; omega) (hB4w.trans (hw.mono hB4w.size))
                clear hoth hbel hnew hgn hw hs4 hr4
                go_wp2_with fail
                have T0 : Below V.heap.size V V.drew := (Below.refl _ _).drew
                clear P1 P2 P3 M1 M2 CI CW CX CY CZ h0 h1 h2 h3 h4 h6
                obtain ⟨x1, x2⟩ := t6
                obtain ⟨y1, y2⟩ := t5
                dsimp only at h7 P4
                by_cases e1 : x1 = y1
                · subst e1
                  by_cases e2 : x2 = y2
                  · subst e2
                    have HX : Hid (prfOk A B G D f n m X Y Z = true) := by show _ = _; rw [HE.out]; exact decide_eq_true rfl
                    clear HE
                    refine wp_region_ord [(0, false), (1, false), (2, false), (3, false), (5, false), (4, true), (6, false), (7, false)] (fun wz => Below V.heap.size V wz) mixes (by kernel_rfl) T0 ?_
                    repeat (refine ord_float rfl rfl (fun K hK => ⟨_, (fun w' hw => by have q0 := (hr5.on hw hr5.lt).cell 0; have q1 :=  (hr5.on hw hr5.lt).cell 1; have q2 :=  (hr5.on hw hr5.lt).cell 2; have q3 :=  (hr5.on hw hr5.lt).cell 3; have q4 :=  (hr5.on hw hr5.lt).cell 4; have q5 :=  (hr5.on hw hr5.lt).cell 5; have q6 :=  (h7.on hw h7.lt).cell 0; have q7 :=  (h7.on hw h7.lt).cell 1; go_simp; exact rfl), ?_⟩); go_simp; refine hK _ ?_; clear hK K)
                    refine ord_call rfl rfl (fun K hK => ⟨_, _, (by go_simp <;> first | exact rfl | exact ⟨rfl, rfl⟩), ?_⟩)
                    refine (P4.out _).mono ?_
                    rintro e u1 ⟨rfl, hu1⟩
                    have T1 := below_then T0 hu1
                    refine ⟨_, rfl, T1, ?_⟩
                    go_simp
                    refine hK _ _ ?_
                    clear hK K
                    repeat (refine ord_float rfl rfl (fun K hK => ⟨_, (fun w' hw => by have q0 := (h7.on hw h7.lt).cell 0; have q1 :=  (h7.on hw h7.lt).cell 1; go_simp; exact rfl), ?_⟩); go_simp; refine hK _ ?_; clear hK K)
                    refine ord_nil ?_
                    go_wp2
                    go_ret
                    exact ⟨by rw [HX.out]; rfl, hB5.trans (T1.mono hB5.size)⟩
                  · have e3 : (x2 == y2) = false := by rw [beq_eq_false_iff_ne]; exact e2
                    have HX : Hid (prfOk A B G D f n m X Y Z = false) := by show _ = _; rw [HE.out]; exact decide_eq_false (fun h => e2 (congrArg Prod.snd h))
                    clear HE
                    refine wp_region_ord [(0, false), (1, false), (2, false), (3, false), (5, false), (4, true), (6, false), (7, false)] (fun wz => Below V.heap.size V wz) mixes (by kernel_rfl) T0 ?_
                    repeat (refine ord_float rfl rfl (fun K hK => ⟨_, (fun w' hw => by have q0 := (hr5.on hw hr5.lt).cell 0; have q1 :=  (hr5.on hw hr5.lt).cell 1; have q2 :=  (hr5.on hw hr5.lt).cell 2; have q3 :=  (hr5.on hw hr5.lt).cell 3; have q4 :=  (hr5.on hw hr5.lt).cell 4; have q5 :=  (hr5.on hw hr5.lt).cell 5; have q6 :=  (h7.on hw h7.lt).cell 0; have q7 :=  (h7.on hw h7.lt).cell 1; go_simp; exact rfl), ?_⟩); go_simp; refine hK _ ?_; clear hK K)
                    refine ord_call rfl rfl (fun K hK => ⟨_, _, (by go_simp <;> first | exact rfl | exact ⟨rfl, rfl⟩), ?_⟩)
                    refine (P4.out _).mono ?_
                    rintro e u1 ⟨rfl, hu1⟩
                    have T1 := below_then T0 hu1
                    refine ⟨_, rfl, T1, ?_⟩
                    go_simp
                    refine hK _ _ ?_
                    clear hK K
                    repeat (refine ord_float rfl rfl (fun K hK => ⟨_, (fun w' hw => by have q0 := (h7.on hw h7.lt).cell 0; have q1 :=  (h7.on hw h7.lt).cell 1; go_simp; exact rfl), ?_⟩); go_simp; refine hK _ ?_; clear hK K)
                    refine ord_nil ?_
                    go_wp2
                    go_ret
                    exact ⟨by rw [HX.out]; rfl, hB5.trans (T1.mono hB5.size)⟩
                · have e3 : (x1 == y1) = false := by rw [beq_eq_false_iff_ne]; exact e1
                  have HX : Hid (prfOk A B G D f n m X Y Z = false) := by show _ = _; rw [HE.out]; exact decide_eq_false (fun h => e1 (congrArg Prod.fst h))
                  clear HE
                  refine wp_region_ord [(0, false), (1, false), (2, false), (3, false), (5, false), (4, true), (6, false), (7, false)] (fun wz => Below V.heap.size V wz) mixes (by kernel_rfl) T0 ?_
                  repeat (refine ord_float rfl rfl (fun K hK => ⟨_, (fun w' hw => by have q0 := (hr5.on hw hr5.lt).cell 0; have q1 :=  (hr5.on hw hr5.lt).cell 1; have q2 :=  (hr5.on hw hr5.lt).cell 2; have q3 :=  (hr5.on hw hr5.lt).cell 3; have q4 :=  (hr5.on hw hr5.lt).cell 4; have q5 :=  (hr5.on hw hr5.lt).cell 5; have q6 :=  (h7.on hw h7.lt).cell 0; have q7 :=  (h7.on hw h7.lt).cell 1; go_simp; exact rfl), ?_⟩); go_simp; refine hK _ ?_; clear hK K)
                  refine ord_call rfl rfl (fun K hK => ⟨_, _, (by go_simp <;> first | exact rfl | exact ⟨rfl, rfl⟩), ?_⟩)
                  refine (P4.out _).mono ?_
                  rintro e u1 ⟨rfl, hu1⟩
                  have T1 := below_then T0 hu1
                  refine ⟨_, rfl, T1, ?_⟩
                  go_simp
                  refine hK _ _ ?_
                  clear hK K
                  repeat (refine ord_float rfl rfl (fun K hK => ⟨_, (fun w' hw => by have q0 := (h7.on hw h7.lt).cell 0; have q1 :=  (h7.on hw h7.lt).cell 1; go_simp; exact rfl), ?_⟩); go_simp; refine hK _ ?_; clear hK K)
                  refine ord_nil ?_
                  go_wp2
                  go_ret
                  exact ⟨by rw [HX.out]; rfl, hB5.trans (T1.mono hB5.size)⟩
            · have hnm' : ¬ (n : Int) = (ml : Int) + 1 := by omega
              have HE : Hid (prfOk A B G D f n m X Y Z = false) := by show _ = _; rw [HOK.out, decide_eq_false hnm]; simp
              go_wp2
              go_ret
              exact ⟨by rw [HE.out]; rfl, HB.out.trans (HB3.out.mono HB.out.size)⟩
          · have HE : Hid (prfOk A B G D f n m X Y Z = false) := by show _ = _; rw [HOK.out, h4]; simp
            rw [h4] at q5
            go_wp2
            go_ret
            exact ⟨by rw [HE.out]; rfl, HB.out.trans (HB3.out.mono HB.out.size)⟩
        · have HE : Hid (prfOk A B G D f n m X Y Z = false) := by show _ = _; rw [HOK.out, h3]; simp
          rw [h3] at q2
          go_wp2
          go_ret
          exact ⟨by rw [HE.out]; rfl, HB.out.trans (HB3.out.mono HB.out.size)⟩

end Go.Proofs.YthnahalboomkoaaGreat
