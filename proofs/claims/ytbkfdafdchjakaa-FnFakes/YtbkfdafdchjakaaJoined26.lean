/-
  Texts of one's own, joined.
-/
import Derived.Test.YtbkfdafdchjakaaJoined20
import Derived.Test.YtbkfdafdchjakaaJoined21
import Derived.Test.YtbkfdafdchjakaaPrfS6
import Derived.Test.YtbkfdafdchjakaaJoined25
import Derived.Test.YtbkfdafdchjakaaJoined15

/-
  The walk of the program's word on whether a proof is right.
  (-DROP-: what the seat lacks is left out.)
-/
namespace Go.Proofs.Ytbkfdafdchjakaa
open Go.RowKit

def prfOkI (A B G D : Pt) (f : Nat → Pt) (n : Nat) (m : List Int) (X Y Z : Pt) : Bool := prfMay n m X Y Z && prfRight A B G D (inSumI f n m) X Y Z
theorem may_parts (n : Nat) (m : List Int) (X Y Z : Pt) : prfMay n m X Y Z = (!X.2.2 && (!Y.2.2 && (prfIn X Y Z && wide m ((n : Int) - 1)))) := by
  have e : (decide (n = m.length + 1) && wide m (m.length : Int)) = wide m ((n : Int) - 1) := by
    unfold wide
    by_cases h : n = m.length + 1
    · have h1 : (m.length : Int) = (n : Int) - 1 := by omega
      rw [decide_eq_true h, decide_eq_true h1, decide_eq_true rfl]
      rfl
    · have h1 : ¬ (m.length : Int) = (n : Int) - 1 := by omega
      rw [decide_eq_false h, decide_eq_false h1]
      simp
  unfold prfMay prfIn
  rw [Bool.and_assoc (b := decide (n = m.length + 1)), e]
  cases inGB X <;> cases inGB Y <;> cases inGB Z <;> cases X.2.2 <;> cases Y.2.2 <;> cases wide m ((n : Int) - 1) <;> rfl

set_option maxHeartbeats 6400000 in
set_option maxRecDepth 100000 in
theorem iProofOk_any (A B G D : Pt) (a : Option Addr) (n cp : Nat) (hn : n ≤ 1048576) (hcp : n ≤ cp) (f : Nat → Pt) (am : Option Addr) (cm : Nat) (m : List Int) (hm : m.length ≤ 1048576) (X Y Z : Pt) (w : World) (hA : PtsAt w a n w.heap.size f) (hB : IntsAt w am m.length w.heap.size (fun j => m.getD j 0)) :
    Calls Try.prog 11 #[.agg (keyC A B G D (.slice a n cp)), .slice am m.length cm, .agg (prfC X Y Z)] w fun e w' => e = .returned (.bool (prfOkI A B G D f n m X Y Z)) ∧ Below w.heap.size w w' := by
  obtain ⟨W, hW, hb, hs, hr⟩ := boxes1r w 38 44 #[.int .i64 A.1, .int .i64 A.2.1, .bool A.2.2, .int .i64 B.1, .int .i64 B.2.1, .bool B.2.2, .int .i64 G.1, .int .i64 G.2.1, .bool G.2.2, .int .i64 D.1, .int .i64 D.2.1, .bool D.2.2, .slice a n cp] (prfC X Y Z)
  have HB : Hid (Below w.heap.size w W ∧ Blk W w.heap.size 38 #[.int .i64 A.1, .int .i64 A.2.1, .bool A.2.2, .int .i64 B.1, .int .i64 B.2.1, .bool B.2.2, .int .i64 G.1, .int .i64 G.2.1, .bool G.2.2, .int .i64 D.1, .int .i64 D.2.1, .bool D.2.2, .slice a n cp] ∧ Blk W (w.heap.size + 1) 44 #[.int .i64 X.1, .int .i64 X.2.1, .bool X.2.2, .int .i64 Y.1, .int .i64 Y.2.1, .bool Y.2.2, .int .i64 Z.1, .int .i64 Z.2.1, .bool Z.2.2]) := ⟨hb, hs, hr⟩
  have CI : Hid (∀ V, Below w.heap.size w V → Calls Try.prog 37 #[.agg #[.int .i64 A.1, .int .i64 A.2.1, .bool A.2.2, .int .i64 B.1, .int .i64 B.2.1, .bool B.2.2, .int .i64 G.1, .int .i64 G.2.1, .bool G.2.2, .int .i64 D.1, .int .i64 D.2.1, .bool D.2.2, .slice a n cp], .slice am m.length cm] V fun e w' => e = .returned (pv (inSumI f n m)) ∧ Below V.heap.size V w') := fun V hV => iInput_any A B G D a n cp hn hcp f am cm m hm V ((hA.on hV).wide hV.size) ((hB.on hV).wide hV.size)
  have CW : Hid (∀ V, Below w.heap.size w V → Calls Try.prog 34 #[.slice am m.length cm, .int .i64 ((n : Int) - 1)] V fun e w' => e = .returned (.bool (wide m ((n : Int) - 1))) ∧ Below V.heap.size V w') := fun V hV => iWide_any am cm m ((n : Int) - 1) (by omega) V ((hB.on hV).wide hV.size)
  have CP : Hid (∀ V, Calls Try.prog 32 #[.agg (prfC X Y Z)] V fun e w' => e = .returned (.agg (prfC X Y Z)) ∧ Below V.heap.size V w') := points_any X Y Z
  have CG : Hid (∀ g c V, g < V.heap.size → Blk V g 76 (prfC X Y Z) → Calls Try.prog 33 #[.slice (some ⟨g, 0, none⟩) 3 c] V fun e w' => e = .returned (.bool (prfIn X Y Z)) ∧ Below V.heap.size V w') := fun g c V hg h => by
    have h1 := allIn_any (some ⟨g, 0, none⟩) 3 c (by decide) (three X Y Z) V (pts3 hg h)
    rw [three_all] at h1
    exact h1
  have HOK : Hid (prfOkI A B G D f n m X Y Z = ((!X.2.2 && (!Y.2.2 && (prfIn X Y Z && wide m ((n : Int) - 1)))) && prfRight A B G D (inSumI f n m) X Y Z)) := by show _ = _; unfold prfOkI; rw [may_parts]
  have HRG : Hid (prfRight A B G D (inSumI f n m) X Y Z = decide (pairS X Y = tm (tm (pairS A B) (pairS (inSumI f n m) G)) (pairS Z D))) := rfl
  obtain ⟨R, hR⟩ : ∃ R, R = prfOkI A B G D f n m X Y Z := ⟨_, rfl⟩
  rw [← hR] at HOK ⊢
  clear hR
  generalize prfRight A B G D (inSumI f n m) X Y Z = RG at HOK HRG
  generalize inSumI f n m = J at CI HRG
  have P1 : Hid (∀ V, Calls Try.prog 36 #[.agg #[.int .i64 A.1, .int .i64 A.2.1, .bool A.2.2], .agg #[.int .i64 B.1, .int .i64 B.2.1, .bool B.2.2]] V fun e w' => e = .returned (tv (pairS A B)) ∧ Below V.heap.size V w') := iPairing_any A B
  have P2 : Hid (∀ V, Calls Try.prog 36 #[.agg #[.int .i64 J.1, .int .i64 J.2.1, .bool J.2.2], .agg #[.int .i64 G.1, .int .i64 G.2.1, .bool G.2.2]] V fun e w' => e = .returned (tv (pairS J G)) ∧ Below V.heap.size V w') := iPairing_any J G
  have P3 : Hid (∀ V, Calls Try.prog 36 #[.agg #[.int .i64 Z.1, .int .i64 Z.2.1, .bool Z.2.2], .agg #[.int .i64 D.1, .int .i64 D.2.1, .bool D.2.2]] V fun e w' => e = .returned (tv (pairS Z D)) ∧ Below V.heap.size V w') := iPairing_any Z D
  have P4 : Hid (∀ V, Calls Try.prog 36 #[.agg #[.int .i64 X.1, .int .i64 X.2.1, .bool X.2.2], .agg #[.int .i64 Y.1, .int .i64 Y.2.1, .bool Y.2.2]] V fun e w' => e = .returned (tv (pairS X Y)) ∧ Below V.heap.size V w') := iPairing_any X Y
  have M1 : Hid (∀ V, Calls Try.prog 35 #[tv (pairS A B), tv (pairS J G)] V fun e w' => e = .returned (tv (tm (pairS A B) (pairS J G))) ∧ Below V.heap.size V w') := iMul2_any _ _
  have M2 : Hid (∀ V, Calls Try.prog 35 #[tv (tm (pairS A B) (pairS J G)), tv (pairS Z D)] V fun e w' => e = .returned (tv (tm (tm (pairS A B) (pairS J G)) (pairS Z D))) ∧ Below V.heap.size V w') := iMul2_any _ _
  generalize tm (tm (pairS A B) (pairS J G)) (pairS Z D) = t5 at *
  generalize tm (pairS A B) (pairS J G) = t4 at *
  generalize pairS A B = t1 at *
  generalize pairS J G = t2 at *
  generalize pairS Z D = t3 at *
  generalize pairS X Y = t6 at *
  unfold pv at CI
  unfold tv at P1 P2 P3 P4 M1 M2
  unfold keyC
  clear hA hB hb hs
  generalize hml : m.length = ml at *
  clear hml
  generalize hwd : wide m ((n : Int) - 1) = wd at CW HOK
  clear hwd
  have hs1 : w.heap.size + 1 < W.heap.size := hr.lt
  go_enter Try.func11, Try.ntmps11
  go_wp2_with (refine load_blk rfl rfl rfl hr Try.underlying44 infoPr ?_)
  clear hW hr
  refine (CP.out _).mono ?_
  rintro e w1 ⟨rfl, hb1⟩
  have hB1 := HB.out.1.trans (hb1.mono HB.out.1.size)
  have hk1 := HB.out.2.1.on hb1 HB.out.2.1.lt
  have hp1 := HB.out.2.2.on hb1 HB.out.2.2.lt
  have hs2 : w.heap.size + 1 < w1.heap.size := hp1.lt
  clear HB hb1 CP hs1
  obtain ⟨V0, hV0, hb0, hs0⟩ := box1 w1 76 #[.int .i64 0, .int .i64 0, .bool false, .int .i64 0, .int .i64 0, .bool false, .int .i64 0, .int .i64 0, .bool false]
  have K0 : Hid (∀ V1, Below w1.heap.size w1 V1 → Below w.heap.size w V1 ∧ Blk V1 w.heap.size 38 #[.int .i64 A.1, .int .i64 A.2.1, .bool A.2.2, .int .i64 B.1, .int .i64 B.2.1, .bool B.2.2, .int .i64 G.1, .int .i64 G.2.1, .bool G.2.2, .int .i64 D.1, .int .i64 D.2.1, .bool D.2.2, .slice a n cp] ∧ Blk V1 (w.heap.size + 1) 44 #[.int .i64 X.1, .int .i64 X.2.1, .bool X.2.2, .int .i64 Y.1, .int .i64 Y.2.1, .bool Y.2.2, .int .i64 Z.1, .int .i64 Z.2.1, .bool Z.2.2]) := fun V1 h => ⟨hB1.trans (h.mono hB1.size), hk1.on h hk1.lt, hp1.on h hp1.lt⟩
  clear hB1 hk1 hp1
  cases h3 : X.2.2
  · cases h4 : Y.2.2
    · rw [h3, h4] at HOK
      go_wp2_with (refine store_blkS (cs' := prfC X Y Z) rfl rfl rfl rfl rfl hs0 infoPp rfl (ones9 _ _ _) ?_; intro V1 hq1 hheap hoth hbel; have hb3 := hbel _ _ (Nat.le_refl _) hb0; clear hoth hbel hheap; have hK1 := K0.out V1 hb3; have q2 : V1.cell? ⟨w.heap.size + 1, 2, none⟩ = some (.bool false) := (by rw [← h3]; exact hK1.2.2.cell 2); have q5 : V1.cell? ⟨w.heap.size + 1, 5, none⟩ = some (.bool false) := (by rw [← h4]; exact hK1.2.2.cell 5))
      clear hV0 hb0 hs0 K0 q2 q5 hb3
      refine (CG.out _ _ _ hq1.lt hq1).mono ?_
      rintro e w3 ⟨rfl, hb3⟩
      have hB3 := hK1.1.trans (hb3.mono hK1.1.size)
      have hk3 := hK1.2.1.on hb3 hK1.2.1.lt
      have hp3 := hK1.2.2.on hb3 hK1.2.2.lt
      clear hK1 hq1 hb3 CG
      cases h2 : prfIn X Y Z
      · skip
        have HE : Hid (R = false) := by show _ = _; rw [HOK.out, h2]; simp
        go_wp2
        go_ret
        exact ⟨by rw [HE.out]; rfl, hB3⟩
      · have qk : w3.cell? ⟨w.heap.size, 12, none⟩ = some (.slice a n cp) := hk3.cell 12
        have hwr : IntKind.i64.wrap ((n : Int) - 1) = (n : Int) - 1 := IntWalk.i64_in _ (by omega)
        go_wp2_with fail
        clear qk
        refine (CW.out _ hB3).mono ?_
        rintro e w4 ⟨rfl, hb4⟩
        have hB4w := hB3.trans (hb4.mono hB3.size)
        have hs4 := hk3.on hb4 hk3.lt
        have hr4 := hp3.on hb4 hp3.lt
        clear hB3 hk3 hp3 hb4 CW
        cases wd
        · skip
          have HE : Hid (R = false) := by show _ = _; rw [HOK.out, h2]; simp
          go_wp2
          go_ret
          exact ⟨by rw [HE.out]; rfl, hB4w⟩
        · have HE : Hid (R = decide (t6 = t5)) := by show _ = _; rw [HOK.out, h2, HRG.out]; simp
          go_wp2_with fail
          refine wp_region_made 12 mixes (by kernel_rfl) rfl rfl (fun a w => by go_simp <;> rfl) ?_
          simp only [List.take_succ_cons, List.take_zero, List.drop_succ_cons, List.drop_zero]
          repeat (refine bel_step rfl (fun K hK => ⟨_, (fun w' hw => by have q0 := (hs4.on hw hs4.lt).cell 0; have q1 := (hs4.on hw hs4.lt).cell 1; have q2 := (hs4.on hw hs4.lt).cell 2; have q3 := (hs4.on hw hs4.lt).cell 3; have q4 := (hs4.on hw hs4.lt).cell 4; have q5 := (hs4.on hw hs4.lt).cell 5; have q6 := (hs4.on hw hs4.lt).cell 6; have q7 := (hs4.on hw hs4.lt).cell 7; have q8 := (hs4.on hw hs4.lt).cell 8; have q9 := (hs4.on hw hs4.lt).cell 9; have q10 := (hs4.on hw hs4.lt).cell 10; have q11 := (hs4.on hw hs4.lt).cell 11; have q12 := (hs4.on hw hs4.lt).cell 12; have q13 := (hr4.on hw hr4.lt).cell 0; have q14 := (hr4.on hw hr4.lt).cell 1; have q15 := (hr4.on hw hr4.lt).cell 2; have q16 := (hr4.on hw hr4.lt).cell 3; have q17 := (hr4.on hw hr4.lt).cell 4; have q18 := (hr4.on hw hr4.lt).cell 5; have q19 := (hr4.on hw hr4.lt).cell 6; have q20 := (hr4.on hw hr4.lt).cell 7; have q21 := (hr4.on hw hr4.lt).cell 8; go_simp; exact rfl), ?_⟩); go_simp; refine hK _ ?_; clear hK K)
          refine bel_call rfl (fun K hK => ⟨_, _, _, (fun w' => by go_simp <;> first | exact rfl | exact ⟨rfl, rfl⟩), (fun w' hw => P1.out _), ?_⟩); go_simp; refine hK _ ?_; clear hK K
          repeat (refine bel_step rfl (fun K hK => ⟨_, (fun w' hw => by have q0 := (hs4.on hw hs4.lt).cell 0; have q1 := (hs4.on hw hs4.lt).cell 1; have q2 := (hs4.on hw hs4.lt).cell 2; have q3 := (hs4.on hw hs4.lt).cell 3; have q4 := (hs4.on hw hs4.lt).cell 4; have q5 := (hs4.on hw hs4.lt).cell 5; have q6 := (hs4.on hw hs4.lt).cell 6; have q7 := (hs4.on hw hs4.lt).cell 7; have q8 := (hs4.on hw hs4.lt).cell 8; have q9 := (hs4.on hw hs4.lt).cell 9; have q10 := (hs4.on hw hs4.lt).cell 10; have q11 := (hs4.on hw hs4.lt).cell 11; have q12 := (hs4.on hw hs4.lt).cell 12; have q13 := (hr4.on hw hr4.lt).cell 0; have q14 := (hr4.on hw hr4.lt).cell 1; have q15 := (hr4.on hw hr4.lt).cell 2; have q16 := (hr4.on hw hr4.lt).cell 3; have q17 := (hr4.on hw hr4.lt).cell 4; have q18 := (hr4.on hw hr4.lt).cell 5; have q19 := (hr4.on hw hr4.lt).cell 6; have q20 := (hr4.on hw hr4.lt).cell 7; have q21 := (hr4.on hw hr4.lt).cell 8; go_simp; exact rfl), ?_⟩); go_simp; refine hK _ ?_; clear hK K)
          refine bel_call rfl (fun K hK => ⟨_, _, _, (fun w' => by go_simp <;> first | exact rfl | exact ⟨rfl, rfl⟩), (fun w' hw => CI.out _ (hB4w.trans (hw.mono hB4w.size))), ?_⟩); go_simp; refine hK _ ?_; clear hK K
          repeat (refine bel_step rfl (fun K hK => ⟨_, (fun w' hw => by have q0 := (hs4.on hw hs4.lt).cell 0; have q1 := (hs4.on hw hs4.lt).cell 1; have q2 := (hs4.on hw hs4.lt).cell 2; have q3 := (hs4.on hw hs4.lt).cell 3; have q4 := (hs4.on hw hs4.lt).cell 4; have q5 := (hs4.on hw hs4.lt).cell 5; have q6 := (hs4.on hw hs4.lt).cell 6; have q7 := (hs4.on hw hs4.lt).cell 7; have q8 := (hs4.on hw hs4.lt).cell 8; have q9 := (hs4.on hw hs4.lt).cell 9; have q10 := (hs4.on hw hs4.lt).cell 10; have q11 := (hs4.on hw hs4.lt).cell 11; have q12 := (hs4.on hw hs4.lt).cell 12; have q13 := (hr4.on hw hr4.lt).cell 0; have q14 := (hr4.on hw hr4.lt).cell 1; have q15 := (hr4.on hw hr4.lt).cell 2; have q16 := (hr4.on hw hr4.lt).cell 3; have q17 := (hr4.on hw hr4.lt).cell 4; have q18 := (hr4.on hw hr4.lt).cell 5; have q19 := (hr4.on hw hr4.lt).cell 6; have q20 := (hr4.on hw hr4.lt).cell 7; have q21 := (hr4.on hw hr4.lt).cell 8; go_simp; exact rfl), ?_⟩); go_simp; refine hK _ ?_; clear hK K)
          refine bel_call rfl (fun K hK => ⟨_, _, _, (fun w' => by go_simp <;> first | exact rfl | exact ⟨rfl, rfl⟩), (fun w' hw => P2.out _), ?_⟩); go_simp; refine hK _ ?_; clear hK K
          refine bel_call rfl (fun K hK => ⟨_, _, _, (fun w' => by go_simp <;> first | exact rfl | exact ⟨rfl, rfl⟩), (fun w' hw => M1.out _), ?_⟩); go_simp; refine hK _ ?_; clear hK K
          refine bel_nil ?_
          intro gn w' hw hgn hnew
          refine frame_out fun K hK => ?_
          go_simp
          refine hK _ ?_
          clear hK K
          refine store_blk (cs' := #[.int .i64 t4.1, .int .i64 t4.2]) rfl rfl rfl rfl rfl hnew infoT rfl (ones2 _ _) ?_
          intro V h7 hoth hbel
          have hr5 := hoth _ _ _ (by have := hr4.lt; omega) (hr4.on hw hr4.lt)
          have hs5 := hoth _ _ _ (by have := hs4.lt; omega) (hs4.on hw hs4.lt)
          have hB5 : Below w.heap.size w V := hbel _ _ (by have := hB4w.size; omega) (hB4w.trans (hw.mono hB4w.size))
          clear hoth hbel hnew hgn hw hs4 hr4
          go_wp2_with fail
          have T0 : Below V.heap.size V V.drew := (Below.refl _ _).drew
          clear P1 P2 M1 CI h2 h3 h4 HOK HRG
          obtain ⟨x1, x2⟩ := t6
          obtain ⟨y1, y2⟩ := t5
          dsimp only at P4 M2
          by_cases e1 : x1 = y1
          · subst e1
            by_cases e2 : x2 = y2
            · subst e2
              have HX : Hid (R = true) := by show _ = _; rw [HE.out]; exact decide_eq_true rfl
              clear HE
              refine wp_region_ord [(0, false), (1, false), (2, false), (3, false), (5, false), (6, false), (7, false), (8, false), (9, false), (4, true), (10, true), (11, true), (12, false), (13, false)] (fun wz => Below V.heap.size V wz) mixes (by kernel_rfl) T0 ?_
              repeat (refine ord_float rfl rfl (fun K hK => ⟨_, (fun w' hw => by have q0 := (hr5.on hw hr5.lt).cell 0; have q1 :=  (hr5.on hw hr5.lt).cell 1; have q2 :=  (hr5.on hw hr5.lt).cell 2; have q3 :=  (hr5.on hw hr5.lt).cell 3; have q4 :=  (hr5.on hw hr5.lt).cell 4; have q5 :=  (hr5.on hw hr5.lt).cell 5; have q6 :=  (hr5.on hw hr5.lt).cell 6; have q7 :=  (hr5.on hw hr5.lt).cell 7; have q8 :=  (hr5.on hw hr5.lt).cell 8; have q9 :=  (hs5.on hw hs5.lt).cell 0; have q10 :=  (hs5.on hw hs5.lt).cell 1; have q11 :=  (hs5.on hw hs5.lt).cell 2; have q12 :=  (hs5.on hw hs5.lt).cell 3; have q13 :=  (hs5.on hw hs5.lt).cell 4; have q14 :=  (hs5.on hw hs5.lt).cell 5; have q15 :=  (hs5.on hw hs5.lt).cell 6; have q16 :=  (hs5.on hw hs5.lt).cell 7; have q17 :=  (hs5.on hw hs5.lt).cell 8; have q18 :=  (hs5.on hw hs5.lt).cell 9; have q19 :=  (hs5.on hw hs5.lt).cell 10; have q20 :=  (hs5.on hw hs5.lt).cell 11; have q21 :=  (hs5.on hw hs5.lt).cell 12; have q22 :=  (h7.on hw h7.lt).cell 0; have q23 :=  (h7.on hw h7.lt).cell 1; go_simp; exact rfl), ?_⟩); go_simp; refine hK _ ?_; clear hK K)
              refine ord_call rfl rfl (fun K hK => ⟨_, _, (by go_simp <;> first | exact rfl | exact ⟨rfl, rfl⟩), ?_⟩)
              refine (P4.out _).mono ?_
              rintro e u1 ⟨rfl, hu1⟩
              have T1 := below_then T0 hu1
              refine ⟨_, rfl, T1, ?_⟩
              go_simp
              refine hK _ _ ?_
              clear hK K
              refine ord_call rfl rfl (fun K hK => ⟨_, _, (by go_simp <;> first | exact rfl | exact ⟨rfl, rfl⟩), ?_⟩)
              refine (P3.out _).mono ?_
              rintro e u2 ⟨rfl, hu2⟩
              have T2 := below_then T1 hu2
              refine ⟨_, rfl, T2, ?_⟩
              go_simp
              refine hK _ _ ?_
              clear hK K
              refine ord_call rfl rfl (fun K hK => ⟨_, _, (by go_simp <;> first | exact rfl | exact ⟨rfl, rfl⟩), ?_⟩)
              refine (M2.out _).mono ?_
              rintro e u3 ⟨rfl, hu3⟩
              have T3 := below_then T2 hu3
              refine ⟨_, rfl, T3, ?_⟩
              go_simp
              refine hK _ _ ?_
              clear hK K
              repeat (refine ord_float rfl rfl (fun K hK => ⟨_, (fun w' hw => by have q0 := (h7.on hw h7.lt).cell 0; go_simp; exact rfl), ?_⟩); go_simp; refine hK _ ?_; clear hK K)
              refine ord_nil ?_
              go_wp2
              go_ret
              exact ⟨by rw [HX.out]; rfl, hB5.trans (T3.mono hB5.size)⟩
            · have e3 : (x2 == y2) = false := by rw [beq_eq_false_iff_ne]; exact e2
              have HX : Hid (R = false) := by show _ = _; rw [HE.out]; exact decide_eq_false (fun h => e2 (congrArg Prod.snd h))
              clear HE
              refine wp_region_ord [(0, false), (1, false), (2, false), (3, false), (5, false), (6, false), (7, false), (8, false), (9, false), (4, true), (10, true), (11, true), (12, false), (13, false)] (fun wz => Below V.heap.size V wz) mixes (by kernel_rfl) T0 ?_
              repeat (refine ord_float rfl rfl (fun K hK => ⟨_, (fun w' hw => by have q0 := (hr5.on hw hr5.lt).cell 0; have q1 :=  (hr5.on hw hr5.lt).cell 1; have q2 :=  (hr5.on hw hr5.lt).cell 2; have q3 :=  (hr5.on hw hr5.lt).cell 3; have q4 :=  (hr5.on hw hr5.lt).cell 4; have q5 :=  (hr5.on hw hr5.lt).cell 5; have q6 :=  (hr5.on hw hr5.lt).cell 6; have q7 :=  (hr5.on hw hr5.lt).cell 7; have q8 :=  (hr5.on hw hr5.lt).cell 8; have q9 :=  (hs5.on hw hs5.lt).cell 0; have q10 :=  (hs5.on hw hs5.lt).cell 1; have q11 :=  (hs5.on hw hs5.lt).cell 2; have q12 :=  (hs5.on hw hs5.lt).cell 3; have q13 :=  (hs5.on hw hs5.lt).cell 4; have q14 :=  (hs5.on hw hs5.lt).cell 5; have q15 :=  (hs5.on hw hs5.lt).cell 6; have q16 :=  (hs5.on hw hs5.lt).cell 7; have q17 :=  (hs5.on hw hs5.lt).cell 8; have q18 :=  (hs5.on hw hs5.lt).cell 9; have q19 :=  (hs5.on hw hs5.lt).cell 10; have q20 :=  (hs5.on hw hs5.lt).cell 11; have q21 :=  (hs5.on hw hs5.lt).cell 12; have q22 :=  (h7.on hw h7.lt).cell 0; have q23 :=  (h7.on hw h7.lt).cell 1; go_simp; exact rfl), ?_⟩); go_simp; refine hK _ ?_; clear hK K)
              refine ord_call rfl rfl (fun K hK => ⟨_, _, (by go_simp <;> first | exact rfl | exact ⟨rfl, rfl⟩), ?_⟩)
              refine (P4.out _).mono ?_
              rintro e u1 ⟨rfl, hu1⟩
              have T1 := below_then T0 hu1
              refine ⟨_, rfl, T1, ?_⟩
              go_simp
              refine hK _ _ ?_
              clear hK K
              refine ord_call rfl rfl (fun K hK => ⟨_, _, (by go_simp <;> first | exact rfl | exact ⟨rfl, rfl⟩), ?_⟩)
              refine (P3.out _).mono ?_
              rintro e u2 ⟨rfl, hu2⟩
              have T2 := below_then T1 hu2
              refine ⟨_, rfl, T2, ?_⟩
              go_simp
              refine hK _ _ ?_
              clear hK K
              refine ord_call rfl rfl (fun K hK => ⟨_, _, (by go_simp <;> first | exact rfl | exact ⟨rfl, rfl⟩), ?_⟩)
              refine (M2.out _).mono ?_
              rintro e u3 ⟨rfl, hu3⟩
              have T3 := below_then T2 hu3
              refine ⟨_, rfl, T3, ?_⟩
              go_simp
              refine hK _ _ ?_
              clear hK K
              repeat (refine ord_float rfl rfl (fun K hK => ⟨_, (fun w' hw => by have q0 := (h7.on hw h7.lt).cell 0; go_simp; exact rfl), ?_⟩); go_simp; refine hK _ ?_; clear hK K)
              refine ord_nil ?_
              go_wp2
              go_ret
              exact ⟨by rw [HX.out]; rfl, hB5.trans (T3.mono hB5.size)⟩
          · have e3 : (x1 == y1) = false := by rw [beq_eq_false_iff_ne]; exact e1
            have HX : Hid (R = false) := by show _ = _; rw [HE.out]; exact decide_eq_false (fun h => e1 (congrArg Prod.fst h))
            clear HE
            refine wp_region_ord [(0, false), (1, false), (2, false), (3, false), (5, false), (6, false), (7, false), (8, false), (9, false), (4, true), (10, true), (11, true), (12, false), (13, false)] (fun wz => Below V.heap.size V wz) mixes (by kernel_rfl) T0 ?_
            repeat (refine ord_float rfl rfl (fun K hK => ⟨_, (fun w' hw => by have q0 := (hr5.on hw hr5.lt).cell 0; have q1 :=  (hr5.on hw hr5.lt).cell 1; have q2 :=  (hr5.on hw hr5.lt).cell 2; have q3 :=  (hr5.on hw hr5.lt).cell 3; have q4 :=  (hr5.on hw hr5.lt).cell 4; have q5 :=  (hr5.on hw hr5.lt).cell 5; have q6 :=  (hr5.on hw hr5.lt).cell 6; have q7 :=  (hr5.on hw hr5.lt).cell 7; have q8 :=  (hr5.on hw hr5.lt).cell 8; have q9 :=  (hs5.on hw hs5.lt).cell 0; have q10 :=  (hs5.on hw hs5.lt).cell 1; have q11 :=  (hs5.on hw hs5.lt).cell 2; have q12 :=  (hs5.on hw hs5.lt).cell 3; have q13 :=  (hs5.on hw hs5.lt).cell 4; have q14 :=  (hs5.on hw hs5.lt).cell 5; have q15 :=  (hs5.on hw hs5.lt).cell 6; have q16 :=  (hs5.on hw hs5.lt).cell 7; have q17 :=  (hs5.on hw hs5.lt).cell 8; have q18 :=  (hs5.on hw hs5.lt).cell 9; have q19 :=  (hs5.on hw hs5.lt).cell 10; have q20 :=  (hs5.on hw hs5.lt).cell 11; have q21 :=  (hs5.on hw hs5.lt).cell 12; have q22 :=  (h7.on hw h7.lt).cell 0; have q23 :=  (h7.on hw h7.lt).cell 1; go_simp; exact rfl), ?_⟩); go_simp; refine hK _ ?_; clear hK K)
            refine ord_call rfl rfl (fun K hK => ⟨_, _, (by go_simp <;> first | exact rfl | exact ⟨rfl, rfl⟩), ?_⟩)
            refine (P4.out _).mono ?_
            rintro e u1 ⟨rfl, hu1⟩
            have T1 := below_then T0 hu1
            refine ⟨_, rfl, T1, ?_⟩
            go_simp
            refine hK _ _ ?_
            clear hK K
            refine ord_call rfl rfl (fun K hK => ⟨_, _, (by go_simp <;> first | exact rfl | exact ⟨rfl, rfl⟩), ?_⟩)
            refine (P3.out _).mono ?_
            rintro e u2 ⟨rfl, hu2⟩
            have T2 := below_then T1 hu2
            refine ⟨_, rfl, T2, ?_⟩
            go_simp
            refine hK _ _ ?_
            clear hK K
            refine ord_call rfl rfl (fun K hK => ⟨_, _, (by go_simp <;> first | exact rfl | exact ⟨rfl, rfl⟩), ?_⟩)
            refine (M2.out _).mono ?_
            rintro e u3 ⟨rfl, hu3⟩
            have T3 := below_then T2 hu3
            refine ⟨_, rfl, T3, ?_⟩
            go_simp
            refine hK _ _ ?_
            clear hK K
            repeat (refine ord_float rfl rfl (fun K hK => ⟨_, (fun w' hw => by have q0 := (h7.on hw h7.lt).cell 0; go_simp; exact rfl), ?_⟩); go_simp; refine hK _ ?_; clear hK K)
            refine ord_nil ?_
            go_wp2
            go_ret
            exact ⟨by rw [HX.out]; rfl, hB5.trans (T3.mono hB5.size)⟩
    · have HE : Hid (R = false) := by show _ = _; rw [HOK.out, h4]; simp
      go_wp2_with (refine store_blkS (cs' := prfC X Y Z) rfl rfl rfl rfl rfl hs0 infoPp rfl (ones9 _ _ _) ?_; intro V1 hq1 hheap hoth hbel; have hb3 := hbel _ _ (Nat.le_refl _) hb0; clear hoth hbel hheap; have hK1 := K0.out V1 hb3; have q2 : V1.cell? ⟨w.heap.size + 1, 2, none⟩ = some (.bool false) := (by rw [← h3]; exact hK1.2.2.cell 2); have q5 : V1.cell? ⟨w.heap.size + 1, 5, none⟩ = some (.bool true) := (by rw [← h4]; exact hK1.2.2.cell 5))
      go_ret
      exact ⟨by rw [HE.out]; rfl, hK1.1⟩
  · have HE : Hid (R = false) := by show _ = _; rw [HOK.out, h3]; simp
    go_wp2_with (refine store_blkS (cs' := prfC X Y Z) rfl rfl rfl rfl rfl hs0 infoPp rfl (ones9 _ _ _) ?_; intro V1 hq1 hheap hoth hbel; have hb3 := hbel _ _ (Nat.le_refl _) hb0; clear hoth hbel hheap; have hK1 := K0.out V1 hb3; have q2 : V1.cell? ⟨w.heap.size + 1, 2, none⟩ = some (.bool true) := (by rw [← h3]; exact hK1.2.2.cell 2))
    go_ret
    exact ⟨by rw [HE.out]; rfl, hK1.1⟩

end Go.Proofs.Ytbkfdafdchjakaa

/-
  A proof without a witness is right: no program in here.
-/
namespace Go.Proofs.Ytbkfdafdchjakaa

theorem gx_live {x : Int} (h : 1 ≤ x ∧ x ≤ 1008) : (gx x).2.2 = false := by
  rw [gx_zero]
  refine decide_eq_false fun h0 => ?_
  have h1 := (scn_zero x).1 h0
  unfold Dp at h1
  omega
theorem gxL_get (l : List Int) {j : Nat} (h : j < l.length) : (gxL l).getD j pZ = gx (l.getD j 0) := by
  unfold gxL
  simp [h]
/-- What is told, all together. -/
theorem inSum_gx (x : Nat → Int) (m : List Int) (p : Nat) (hm : m.length = p) : inSumI (fun j => (gxL (zls x (p + 1))).getD j pZ) (p + 1) m = gx (x 0 + sumZ (fun j => m.getD j 0 * x (j + 1)) p) := by
  unfold inSumI
  rw [if_pos (by omega), hm]
  have hat : ∀ j, j < p + 1 → (gxL (zls x (p + 1))).getD j pZ = gx (x j) := fun j hj => by rw [gxL_get _ (by rw [zls_length]; exact hj), zls_at _ hj]
  have e : wEach ((gxL (zls x (p + 1))).getD 0 pZ) (fun j => m.getD j 0) (fun j => (gxL (zls x (p + 1))).getD (j + 1) pZ) p = wEach (gx (x 0)) (fun j => m.getD j 0) (fun j => gx (x (j + 1))) p := by
    rw [hat 0 (by omega)]
    exact wEach_congr p (fun _ _ => rfl) (fun j hj => hat (j + 1) (by omega))
  rw [e, wEach_gx]
theorem told_dp (ls : List (List Int)) (n : Nat) (ta al be gi : Int) (m : Nat → Int) (p : Nat) : Dp (kBy ls n ta al be gi 0 + sumZ (fun j => m j * kBy ls n ta al be gi (j + 1)) p - fkSum ls n ta al be m p * gi) := by
  have h1 := fkIn_dp ls n ta al be gi m p
  have h2 := dp_scAdd (kBy ls n ta al be gi 0) (dotN (fun j => kBy ls n ta al be gi (j + 1)) m p)
  have h3 := dot_dp (fun j => kBy ls n ta al be gi (j + 1)) m p
  have e : (fun j => kBy ls n ta al be gi (j + 1) * m j) = fun j => m j * kBy ls n ta al be gi (j + 1) := funext fun j => Int.mul_comm _ _
  rw [e] at h3
  exact ((h1.sub h2).sub h3).of (by grind)
theorem fakes_ok {n p : Nat} {ls : List (List Int)} {ta al be ga de : Int} (hT : Tox n ta al be ga de) (m : List Int) (hm : m.length = p) (hw : wide m (m.length : Int) = true) {x y : Int} (hx : 1 ≤ x ∧ x ≤ 1008) (hy : 1 ≤ y ∧ y ≤ 1008) :
    prfOkI (gx al) (gx be) (gx ga) (gx de) (fun j => (gxL (zls (kBy ls n ta al be (scInv ga)) (p + 1))).getD j pZ) (p + 1) m (gx x) (gx y) (gx (fkV ls n ta al be de (fun j => m.getD j 0) p x y)) = true := by
  unfold prfOkI prfMay
  rw [gx_in, gx_in, gx_in, gx_live hx, gx_live hy, hw, decide_eq_true (by omega : p + 1 = m.length + 1)]
  show prfRight _ _ _ _ _ _ _ _ = true
  unfold prfRight
  refine decide_eq_true ?_
  rw [inSum_gx _ m p hm, pair_three]
  exact fakes_sum (inv_dp hT.gOk) (inv_dp hT.dOk) (told_dp ls n ta al be (scInv ga) (fun j => m.getD j 0) p) (dp_zero.of (by unfold fkV; omega))

end Go.Proofs.Ytbkfdafdchjakaa
