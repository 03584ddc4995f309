/-
  The walks of the specification's pairs.
  (-DROP-: what the seat lacks is left out.)
-/
import Derived.Test.YtldkdgbcnbgmiaaDoorJoined35
import Derived.Test.YtldkdgbcnbgmiaaDoorJoined36
import Derived.Test.YtldkdgbcnbgmiaaDoorTwoSP
import Derived.Test.YtldkdgbcnbgmiaaDoorJoined19
namespace Go.Proofs.YtldkdgbcnbgmiaaDoor
open Go.RowKit

set_option maxHeartbeats 800000 in
set_option maxRecDepth 100000 in
theorem sTurn_in {x : Int × Int} (hx : In2 x) (w : World) :
    Calls Tryd.prog 50 #[tv x] w fun e w' => e = .returned (tv (tt x)) ∧ Below w.heap.size w w' := by
  obtain ⟨a, b⟩ := x
  have ha : fp a = a := fp_small hx.1.1 hx.1.2
  have HO : Hid (∀ w, Calls Tryd.prog 15 #[.int .i64 a] w fun e w' => e = .returned (.int .i64 a) ∧ w = w') := by
    have h := sOf_any a
    rw [ha] at h
    exact h
  have HS : Hid (∀ w, Calls Tryd.prog 36 #[.int .i64 0, .int .i64 b] w fun e w' => e = .returned (.int .i64 (tt (a, b)).2) ∧ w = w') := by
    have h := sSub_any 0 b
    rw [show fpSub 0 b = (tt (a, b)).2 by rw [fpSub_eq]; rfl] at h
    exact h
  show Calls _ _ _ _ fun e w' => e = .returned (.agg #[.int .i64 a, .int .i64 (tt (a, b)).2]) ∧ Below w.heap.size w w'
  generalize (tt (a, b)).2 = c at HS ⊢
  clear ha hx
  go_enter Tryd.func50, Tryd.ntmps50
  go_wp2
  obtain ⟨W, hW, hb, hx, hr⟩ := boxes1r w 45 45 #[.int .i64 a, .int .i64 b] #[.int .i64 0, .int .i64 0]
  rw [hW]
  clear hW
  refine wp_region_class 7 (fun wz => Below W.heap.size W wz) mixes (by kernel_rfl) (Below.refl _ _).drew ?_
  simp only [List.take_succ_cons, List.take_zero, List.drop_succ_cons, List.drop_zero]
  repeat (refine cls_step rfl (fun K hK => ⟨_, (fun w' hw => by have q0 := (hx.on hw hx.lt).cell 0; have q1 := (hx.on hw hx.lt).cell 1; go_simp; exact rfl), ?_⟩); go_simp; refine hK _ ?_; clear hK K)
  refine cls_call rfl (fun K hK => ⟨_, _, _, (fun w' => by go_simp <;> first | exact rfl | exact ⟨rfl, rfl⟩), (fun w' hw => calls_same hw (HO.out _)), ?_⟩); go_simp; refine hK _ ?_; clear hK K
  repeat (refine cls_step rfl (fun K hK => ⟨_, (fun w' hw => by have q0 := (hx.on hw hx.lt).cell 0; have q1 := (hx.on hw hx.lt).cell 1; go_simp; exact rfl), ?_⟩); go_simp; refine hK _ ?_; clear hK K)
  refine cls_call rfl (fun K hK => ⟨_, _, _, (fun w' => by go_simp <;> first | exact rfl | exact ⟨rfl, rfl⟩), (fun w' hw => calls_same hw (HS.out _)), ?_⟩); go_simp; refine hK _ ?_; clear hK K
  repeat (refine cls_step rfl (fun K hK => ⟨_, (fun w' hw => by go_simp; exact rfl), ?_⟩); go_simp; refine hK _ ?_; clear hK K)
  refine wq_nil ?_
  intro w' hw
  have hr1 := hr.on hw hr.lt
  go_wp2_with (refine store_blk (cs' := #[.int .i64 a, .int .i64 c]) rfl rfl rfl rfl rfl hr1 infoT rfl (ones2 _ _) ?_; intro V h5 hoth hbel; have hbV := hbel _ _ (by omega) (below_then hb hw); clear hoth hbel)
  refine bodyPost_ret_by (result_blk rfl rfl h5 Tryd.underlying45 infoT) rfl ⟨rfl, hbV⟩

/-- Three parameters in blocks of their own, the result's, and one more. -/
theorem boxes3r1 (w : World) (t1 t2 t3 tr t5 : TypeId) (c1 c2 c3 cr c5 : Array Value) : ∃ W, ((((w.alloc (.cells c1 t1)).alloc (.cells c2 t2)).alloc (.cells c3 t3)).alloc (.cells cr tr)).alloc (.cells c5 t5) = W ∧ Below w.heap.size w W ∧ Blk W w.heap.size t1 c1 ∧ Blk W (w.heap.size + 1) t2 c2 ∧ Blk W (w.heap.size + 1 + 1) t3 c3 ∧ Blk W (w.heap.size + 1 + 1 + 1) tr cr ∧ Blk W (w.heap.size + 1 + 1 + 1 + 1) t5 c5 :=
  ⟨_, rfl, (((((Below.refl _ _).alloc (Nat.le_refl _) _).alloc (by simp) _).alloc (by simp; omega) _).alloc (by simp; omega) _).alloc (by simp; omega) _, ((((Blk.new w t1 c1).alloc _).alloc _).alloc _).alloc _, (((Blk.newAt (by simp)).alloc _).alloc _).alloc _, ((Blk.newAt (by simp)).alloc _).alloc _, (Blk.newAt (by simp)).alloc _, Blk.newAt (by simp)⟩

theorem psl_slope (P Q : Pt) : pSl P Q = if (pSlope P Q).2 = true then some (pSlope P Q).1 else none := by
  unfold pSl pSlope
  by_cases h1 : P.1 = Q.1
  · by_cases h2 : fpAdd P.2.1 Q.2.1 = 0
    · simp [h1, h2]
    · simp [h1, h2]
  · simp [h1]

/-- The line, as it is told. -/
theorem plineB_told (P Q R : Pt) : pLineB P Q R = if P.2.2 || Q.2.2 || R.2.2 || !pOkB P || !pOkB Q || !pOkB R then (1, 0) else if (pSlope P Q).2 = true then (fpSub (fpSub 0 P.2.1) (fpMul (pSlope P Q).1 (fpSub (fpSub 0 R.1) P.1)), R.2.1) else (1, 0) := by
  unfold pLineB pLine
  rw [psl_slope]
  cases P.2.2 <;> cases Q.2.2 <;> cases R.2.2 <;> cases pOkB P <;> cases pOkB Q <;> cases pOkB R <;> cases (pSlope P Q).2 <;> simp

set_option maxHeartbeats 3200000 in
set_option maxRecDepth 100000 in
theorem sLine_any (P Q R : Pt) (w : World) :
    Calls Tryd.prog 68 #[pv P, pv Q, pv R] w fun e w' => e = .returned (tv (pLineB P Q R)) ∧ Below w.heap.size w w' := by
  rw [plineB_told]
  have HA : Hid (∀ w, Calls Tryd.prog 38 #[pv P] w fun e w' => e = .returned (.bool (pOkB P)) ∧ Below w.heap.size w w') := sPOk_any P
  have HB : Hid (∀ w, Calls Tryd.prog 38 #[pv Q] w fun e w' => e = .returned (.bool (pOkB Q)) ∧ Below w.heap.size w w') := sPOk_any Q
  have HC : Hid (∀ w, Calls Tryd.prog 38 #[pv R] w fun e w' => e = .returned (.bool (pOkB R)) ∧ Below w.heap.size w w') := sPOk_any R
  have HL : Hid (∀ w, Calls Tryd.prog 58 #[pv P, pv Q] w fun e w' => e = .returned (.tuple #[.int .i64 (pSlope P Q).1, .bool (pSlope P Q).2]) ∧ Below w.heap.size w w') := sSlope_any P Q
  generalize pOkB P = a at HA ⊢
  generalize pOkB Q = b at HB ⊢
  generalize pOkB R = c at HC ⊢
  generalize pSlope P Q = s at HL ⊢
  obtain ⟨l, ok⟩ := s
  obtain ⟨p1, p2, z1⟩ := P
  obtain ⟨q1, q2, z2⟩ := Q
  obtain ⟨r1, r2, z3⟩ := R
  unfold pv at HA HB HC HL ⊢
  simp only at HA HB HC HL ⊢
  cases z1
  · cases z2
    · cases z3
      · cases a
        · show Calls _ _ _ _ fun e w' => e = .returned (tv (1, 0)) ∧ Below w.heap.size w w'
          go_enter Tryd.func68, Tryd.ntmps68
          go_wp2_with fail
          obtain ⟨W, hW, hb, hp, hq, hr, hs, ho⟩ := boxes3r1 w 23 23 23 45 45 #[.int .i64 p1, .int .i64 p2, .bool false] #[.int .i64 q1, .int .i64 q2, .bool false] #[.int .i64 r1, .int .i64 r2, .bool false] #[.int .i64 0, .int .i64 0] #[.int .i64 1, .int .i64 0]
          rw [hW]
          clear hW
          refine (HA.out _).mono ?_
          rintro e w1 ⟨rfl, hw1⟩
          have hp1 := hp.on hw1 hp.lt
          have hq1 := hq.on hw1 hq.lt
          have hr1 := hr.on hw1 hr.lt
          have hs1 := hs.on hw1 hs.lt
          have ho1 := ho.on hw1 ho.lt
          have hb1 := below_then hb hw1
          clear hp hq hr hs ho hb hw1
          go_wp2_with (first | (refine load_blk rfl rfl rfl ho1 Tryd.underlying45 infoT ?_) | (refine store_blk (cs' := #[.int .i64 1, .int .i64 0]) rfl rfl rfl rfl rfl hs1 infoT rfl (ones2 _ _) ?_; intro V h5 hoth hbel; have hbV := hbel _ _ (by omega) hb1; clear hoth hbel))
          refine bodyPost_ret_by (result_blk rfl rfl h5 Tryd.underlying45 infoT) rfl ⟨rfl, hbV⟩
        · cases b
          · show Calls _ _ _ _ fun e w' => e = .returned (tv (1, 0)) ∧ Below w.heap.size w w'
            go_enter Tryd.func68, Tryd.ntmps68
            go_wp2_with fail
            obtain ⟨W, hW, hb, hp, hq, hr, hs, ho⟩ := boxes3r1 w 23 23 23 45 45 #[.int .i64 p1, .int .i64 p2, .bool false] #[.int .i64 q1, .int .i64 q2, .bool false] #[.int .i64 r1, .int .i64 r2, .bool false] #[.int .i64 0, .int .i64 0] #[.int .i64 1, .int .i64 0]
            rw [hW]
            clear hW
            refine (HA.out _).mono ?_
            rintro e w1 ⟨rfl, hw1⟩
            have hp1 := hp.on hw1 hp.lt
            have hq1 := hq.on hw1 hq.lt
            have hr1 := hr.on hw1 hr.lt
            have hs1 := hs.on hw1 hs.lt
            have ho1 := ho.on hw1 ho.lt
            have hb1 := below_then hb hw1
            clear hp hq hr hs ho hb hw1
            have q0 := hq1.cell 0
            have q1 := hq1.cell 1
            have q2 := hq1.cell 2
            go_wp2_with fail
            clear q0 q1 q2
            refine (HB.out _).mono ?_
            rintro e w2 ⟨rfl, hw2⟩
            have hp2 := hp1.on hw2 hp1.lt
            have hq2 := hq1.on hw2 hq1.lt
            have hr2 := hr1.on hw2 hr1.lt
            have hs2 := hs1.on hw2 hs1.lt
            have ho2 := ho1.on hw2 ho1.lt
            have hb2 := below_then hb1 hw2
            clear hp1 hq1 hr1 hs1 ho1 hb1 hw2
            go_wp2_with (first | (refine load_blk rfl rfl rfl ho2 Tryd.underlying45 infoT ?_) | (refine store_blk (cs' := #[.int .i64 1, .int .i64 0]) rfl rfl rfl rfl rfl hs2 infoT rfl (ones2 _ _) ?_; intro V h5 hoth hbel; have hbV := hbel _ _ (by omega) hb2; clear hoth hbel))
            refine bodyPost_ret_by (result_blk rfl rfl h5 Tryd.underlying45 infoT) rfl ⟨rfl, hbV⟩
          · cases c
            · show Calls _ _ _ _ fun e w' => e = .returned (tv (1, 0)) ∧ Below w.heap.size w w'
              go_enter Tryd.func68, Tryd.ntmps68
              go_wp2_with fail
              obtain ⟨W, hW, hb, hp, hq, hr, hs, ho⟩ := boxes3r1 w 23 23 23 45 45 #[.int .i64 p1, .int .i64 p2, .bool false] #[.int .i64 q1, .int .i64 q2, .bool false] #[.int .i64 r1, .int .i64 r2, .bool false] #[.int .i64 0, .int .i64 0] #[.int .i64 1, .int .i64 0]
              rw [hW]
              clear hW
              refine (HA.out _).mono ?_
              rintro e w1 ⟨rfl, hw1⟩
              have hp1 := hp.on hw1 hp.lt
              have hq1 := hq.on hw1 hq.lt
              have hr1 := hr.on hw1 hr.lt
              have hs1 := hs.on hw1 hs.lt
              have ho1 := ho.on hw1 ho.lt
              have hb1 := below_then hb hw1
              clear hp hq hr hs ho hb hw1
              have q0 := hq1.cell 0
              have q1 := hq1.cell 1
              have q2 := hq1.cell 2
              go_wp2_with fail
              clear q0 q1 q2
              refine (HB.out _).mono ?_
              rintro e w2 ⟨rfl, hw2⟩
              have hp2 := hp1.on hw2 hp1.lt
              have hq2 := hq1.on hw2 hq1.lt
              have hr2 := hr1.on hw2 hr1.lt
              have hs2 := hs1.on hw2 hs1.lt
              have ho2 := ho1.on hw2 ho1.lt
              have hb2 := below_then hb1 hw2
              clear hp1 hq1 hr1 hs1 ho1 hb1 hw2
              have q0 := hr2.cell 0
              have q1 := hr2.cell 1
              have q2 := hr2.cell 2
              go_wp2_with fail
              clear q0 q1 q2
              refine (HC.out _).mono ?_
              rintro e w3 ⟨rfl, hw3⟩
              have hp3 := hp2.on hw3 hp2.lt
              have hq3 := hq2.on hw3 hq2.lt
              have hr3 := hr2.on hw3 hr2.lt
              have hs3 := hs2.on hw3 hs2.lt
              have ho3 := ho2.on hw3 ho2.lt
              have hb3 := below_then hb2 hw3
              clear hp2 hq2 hr2 hs2 ho2 hb2 hw3
              go_wp2_with (first | (refine load_blk rfl rfl rfl ho3 Tryd.underlying45 infoT ?_) | (refine store_blk (cs' := #[.int .i64 1, .int .i64 0]) rfl rfl rfl rfl rfl hs3 infoT rfl (ones2 _ _) ?_; intro V h5 hoth hbel; have hbV := hbel _ _ (by omega) hb3; clear hoth hbel))
              refine bodyPost_ret_by (result_blk rfl rfl h5 Tryd.underlying45 infoT) rfl ⟨rfl, hbV⟩
            · cases ok
              · show Calls _ _ _ _ fun e w' => e = .returned (tv (1, 0)) ∧ Below w.heap.size w w'
                go_enter Tryd.func68, Tryd.ntmps68
                go_wp2_with fail
                obtain ⟨W, hW, hb, hp, hq, hr, hs, ho⟩ := boxes3r1 w 23 23 23 45 45 #[.int .i64 p1, .int .i64 p2, .bool false] #[.int .i64 q1, .int .i64 q2, .bool false] #[.int .i64 r1, .int .i64 r2, .bool false] #[.int .i64 0, .int .i64 0] #[.int .i64 1, .int .i64 0]
                rw [hW]
                clear hW
                refine (HA.out _).mono ?_
                rintro e w1 ⟨rfl, hw1⟩
                have hp1 := hp.on hw1 hp.lt
                have hq1 := hq.on hw1 hq.lt
                have hr1 := hr.on hw1 hr.lt
                have hs1 := hs.on hw1 hs.lt
                have ho1 := ho.on hw1 ho.lt
                have hb1 := below_then hb hw1
                clear hp hq hr hs ho hb hw1
                have q0 := hq1.cell 0
                have q1 := hq1.cell 1
                have q2 := hq1.cell 2
                go_wp2_with fail
                clear q0 q1 q2
                refine (HB.out _).mono ?_
                rintro e w2 ⟨rfl, hw2⟩
                have hp2 := hp1.on hw2 hp1.lt
                have hq2 := hq1.on hw2 hq1.lt
                have hr2 := hr1.on hw2 hr1.lt
                have hs2 := hs1.on hw2 hs1.lt
                have ho2 := ho1.on hw2 ho1.lt
                have hb2 := below_then hb1 hw2
                clear hp1 hq1 hr1 hs1 ho1 hb1 hw2
                have q0 := hr2.cell 0
                have q1 := hr2.cell 1
                have q2 := hr2.cell 2
                go_wp2_with fail
                clear q0 q1 q2
                refine (HC.out _).mono ?_
                rintro e w3 ⟨rfl, hw3⟩
                have hp3 := hp2.on hw3 hp2.lt
                have hq3 := hq2.on hw3 hq2.lt
                have hr3 := hr2.on hw3 hr2.lt
                have hs3 := hs2.on hw3 hs2.lt
                have ho3 := ho2.on hw3 ho2.lt
                have hb3 := below_then hb2 hw3
                clear hp2 hq2 hr2 hs2 ho2 hb2 hw3
                go_wp2_with (first | (refine load_blk rfl rfl rfl hp3 Tryd.underlying23 infoP ?_) | (refine load_blk rfl rfl rfl hq3 Tryd.underlying23 infoP ?_))
                refine (HL.out _).mono ?_
                rintro e w4 ⟨rfl, hw4⟩
                have hp4 := hp3.on hw4 hp3.lt
                have hq4 := hq3.on hw4 hq3.lt
                have hr4 := hr3.on hw4 hr3.lt
                have hs4 := hs3.on hw4 hs3.lt
                have ho4 := ho3.on hw4 ho3.lt
                have hb4 := below_then hb3 hw4
                clear hp3 hq3 hr3 hs3 ho3 hb3 hw4
                go_wp2_with (first | (refine load_blk rfl rfl rfl ho4 Tryd.underlying45 infoT ?_) | (refine store_blk (cs' := #[.int .i64 1, .int .i64 0]) rfl rfl rfl rfl rfl hs4 infoT rfl (ones2 _ _) ?_; intro V h5 hoth hbel; have hbV := hbel _ _ (by omega) hb4; clear hoth hbel))
                refine bodyPost_ret_by (result_blk rfl rfl h5 Tryd.underlying45 infoT) rfl ⟨rfl, hbV⟩
              · show Calls _ _ _ _ fun e w' => e = .returned (tv (fpSub (fpSub 0 p2) (fpMul l (fpSub (fpSub 0 r1) p1)), r2)) ∧ Below w.heap.size w w'
                go_enter Tryd.func68, Tryd.ntmps68
                go_wp2_with fail
                obtain ⟨W, hW, hb, hp, hq, hr, hs, ho⟩ := boxes3r1 w 23 23 23 45 45 #[.int .i64 p1, .int .i64 p2, .bool false] #[.int .i64 q1, .int .i64 q2, .bool false] #[.int .i64 r1, .int .i64 r2, .bool false] #[.int .i64 0, .int .i64 0] #[.int .i64 1, .int .i64 0]
                rw [hW]
                clear hW
                refine (HA.out _).mono ?_
                rintro e w1 ⟨rfl, hw1⟩
                have hp1 := hp.on hw1 hp.lt
                have hq1 := hq.on hw1 hq.lt
                have hr1 := hr.on hw1 hr.lt
                have hs1 := hs.on hw1 hs.lt
                have ho1 := ho.on hw1 ho.lt
                have hb1 := below_then hb hw1
                clear hp hq hr hs ho hb hw1
                have q0 := hq1.cell 0
                have q1 := hq1.cell 1
                have q2 := hq1.cell 2
                go_wp2_with fail
                clear q0 q1 q2
                refine (HB.out _).mono ?_
                rintro e w2 ⟨rfl, hw2⟩
                have hp2 := hp1.on hw2 hp1.lt
                have hq2 := hq1.on hw2 hq1.lt
                have hr2 := hr1.on hw2 hr1.lt
                have hs2 := hs1.on hw2 hs1.lt
                have ho2 := ho1.on hw2 ho1.lt
                have hb2 := below_then hb1 hw2
                clear hp1 hq1 hr1 hs1 ho1 hb1 hw2
                have q0 := hr2.cell 0
                have q1 := hr2.cell 1
                have q2 := hr2.cell 2
                go_wp2_with fail
                clear q0 q1 q2
                refine (HC.out _).mono ?_
                rintro e w3 ⟨rfl, hw3⟩
                have hp3 := hp2.on hw3 hp2.lt
                have hq3 := hq2.on hw3 hq2.lt
                have hr3 := hr2.on hw3 hr2.lt
                have hs3 := hs2.on hw3 hs2.lt
                have ho3 := ho2.on hw3 ho2.lt
                have hb3 := below_then hb2 hw3
                clear hp2 hq2 hr2 hs2 ho2 hb2 hw3
                go_wp2_with (first | (refine load_blk rfl rfl rfl hp3 Tryd.underlying23 infoP ?_) | (refine load_blk rfl rfl rfl hq3 Tryd.underlying23 infoP ?_))
                refine (HL.out _).mono ?_
                rintro e w4 ⟨rfl, hw4⟩
                have hp4 := hp3.on hw4 hp3.lt
                have hq4 := hq3.on hw4 hq3.lt
                have hr4 := hr3.on hw4 hr3.lt
                have hs4 := hs3.on hw4 hs3.lt
                have ho4 := ho3.on hw4 ho3.lt
                have hb4 := below_then hb3 hw4
                clear hp3 hq3 hr3 hs3 ho3 hb3 hw4
                go_wp2
                refine wp_region_class 6 (fun wz => Below w4.heap.size w4 wz) mixes (by kernel_rfl) (Below.refl _ _).drew ?_
                simp only [List.take_succ_cons, List.take_zero, List.drop_succ_cons, List.drop_zero]
                repeat (refine cls_step rfl (fun K hK => ⟨_, (fun w' hw => by have q0 := (hp4.on hw hp4.lt).cell 0; have q1 := (hp4.on hw hp4.lt).cell 1; have q2 := (hp4.on hw hp4.lt).cell 2; have q3 := (hr4.on hw hr4.lt).cell 0; have q4 := (hr4.on hw hr4.lt).cell 1; have q5 := (hr4.on hw hr4.lt).cell 2; go_simp; exact rfl), ?_⟩); go_simp; refine hK _ ?_; clear hK K)
                refine cls_call rfl (fun K hK => ⟨_, _, _, (fun w' => by go_simp <;> first | exact rfl | exact ⟨rfl, rfl⟩), (fun w' hw => calls_same hw (sSub_any _ _ _)), ?_⟩); go_simp; refine hK _ ?_; clear hK K
                repeat (refine cls_step rfl (fun K hK => ⟨_, (fun w' hw => by have q0 := (hp4.on hw hp4.lt).cell 0; have q1 := (hp4.on hw hp4.lt).cell 1; have q2 := (hp4.on hw hp4.lt).cell 2; have q3 := (hr4.on hw hr4.lt).cell 0; have q4 := (hr4.on hw hr4.lt).cell 1; have q5 := (hr4.on hw hr4.lt).cell 2; go_simp; exact rfl), ?_⟩); go_simp; refine hK _ ?_; clear hK K)
                refine cls_call rfl (fun K hK => ⟨_, _, _, (fun w' => by go_simp <;> first | exact rfl | exact ⟨rfl, rfl⟩), (fun w' hw => calls_same hw (sSub_any _ _ _)), ?_⟩); go_simp; refine hK _ ?_; clear hK K
                refine wq_nil ?_
                intro w' hw
                have hp5 := hp4.on hw hp4.lt
                have hr5 := hr4.on hw hr4.lt
                have hs5 := hs4.on hw hs4.lt
                have hb5 := below_then hb4 hw
                clear hp4 hq4 hr4 hs4 ho4 hb4 hw
                go_wp2
                refine wp_region_class 10 (fun wz => Below w'.heap.size w' wz) mixes (by kernel_rfl) (Below.refl _ _).drew ?_
                simp only [List.take_succ_cons, List.take_zero, List.drop_succ_cons, List.drop_zero]
                repeat (refine cls_step rfl (fun K hK => ⟨_, (fun w' hw => by have q0 := (hp5.on hw hp5.lt).cell 0; have q1 := (hp5.on hw hp5.lt).cell 1; have q2 := (hp5.on hw hp5.lt).cell 2; have q3 := (hr5.on hw hr5.lt).cell 0; have q4 := (hr5.on hw hr5.lt).cell 1; have q5 := (hr5.on hw hr5.lt).cell 2; go_simp; exact rfl), ?_⟩); go_simp; refine hK _ ?_; clear hK K)
                refine cls_call rfl (fun K hK => ⟨_, _, _, (fun w' => by go_simp <;> first | exact rfl | exact ⟨rfl, rfl⟩), (fun w' hw => calls_same hw (sSub_any _ _ _)), ?_⟩); go_simp; refine hK _ ?_; clear hK K
                repeat (refine cls_step rfl (fun K hK => ⟨_, (fun w' hw => by go_simp; exact rfl), ?_⟩); go_simp; refine hK _ ?_; clear hK K)
                refine cls_call rfl (fun K hK => ⟨_, _, _, (fun w' => by go_simp <;> first | exact rfl | exact ⟨rfl, rfl⟩), (fun w' hw => calls_same hw (sMul_any _ _ _)), ?_⟩); go_simp; refine hK _ ?_; clear hK K
                refine cls_call rfl (fun K hK => ⟨_, _, _, (fun w' => by go_simp <;> first | exact rfl | exact ⟨rfl, rfl⟩), (fun w' hw => calls_same hw (sSub_any _ _ _)), ?_⟩); go_simp; refine hK _ ?_; clear hK K
                repeat (refine cls_step rfl (fun K hK => ⟨_, (fun w' hw => by have q0 := (hp5.on hw hp5.lt).cell 0; have q1 := (hp5.on hw hp5.lt).cell 1; have q2 := (hp5.on hw hp5.lt).cell 2; have q3 := (hr5.on hw hr5.lt).cell 0; have q4 := (hr5.on hw hr5.lt).cell 1; have q5 := (hr5.on hw hr5.lt).cell 2; go_simp; exact rfl), ?_⟩); go_simp; refine hK _ ?_; clear hK K)
                refine wq_nil ?_
                intro w' hw
                have hs6 := hs5.on hw hs5.lt
                have hb6 := below_then hb5 hw
                clear hp5 hr5 hs5 hb5 hw
                go_wp2_with (refine store_blk (cs' := #[.int .i64 (fpSub (fpSub 0 p2) (fpMul l (fpSub (fpSub 0 r1) p1))), .int .i64 r2]) rfl rfl rfl rfl rfl hs6 infoT rfl (ones2 _ _) ?_; intro V h5 hoth hbel; have hbV := hbel _ _ (by omega) hb6; clear hoth hbel)
                refine bodyPost_ret_by (result_blk rfl rfl h5 Tryd.underlying45 infoT) rfl ⟨rfl, hbV⟩
      · show Calls _ _ _ _ fun e w' => e = .returned (tv (1, 0)) ∧ Below w.heap.size w w'
        go_enter Tryd.func68, Tryd.ntmps68
        go_wp2
        obtain ⟨W, hW, hb, hp, hq, hr, hs, ho⟩ := boxes3r1 w 23 23 23 45 45 #[.int .i64 p1, .int .i64 p2, .bool false] #[.int .i64 q1, .int .i64 q2, .bool false] #[.int .i64 r1, .int .i64 r2, .bool true] #[.int .i64 1, .int .i64 0] #[.int .i64 1, .int .i64 0]
        rw [hW]
        clear hW
        refine bodyPost_ret_by (result_blk rfl rfl hs Tryd.underlying45 infoT) rfl ⟨rfl, hb⟩
    · show Calls _ _ _ _ fun e w' => e = .returned (tv (1, 0)) ∧ Below w.heap.size w w'
      go_enter Tryd.func68, Tryd.ntmps68
      go_wp2
      obtain ⟨W, hW, hb, hp, hq, hr, hs, ho⟩ := boxes3r1 w 23 23 23 45 45 #[.int .i64 p1, .int .i64 p2, .bool false] #[.int .i64 q1, .int .i64 q2, .bool true] #[.int .i64 r1, .int .i64 r2, .bool z3] #[.int .i64 1, .int .i64 0] #[.int .i64 1, .int .i64 0]
      rw [hW]
      clear hW
      refine bodyPost_ret_by (result_blk rfl rfl hs Tryd.underlying45 infoT) rfl ⟨rfl, hb⟩
  · show Calls _ _ _ _ fun e w' => e = .returned (tv (1, 0)) ∧ Below w.heap.size w w'
    go_enter Tryd.func68, Tryd.ntmps68
    go_wp2
    obtain ⟨W, hW, hb, hp, hq, hr, hs, ho⟩ := boxes3r1 w 23 23 23 45 45 #[.int .i64 p1, .int .i64 p2, .bool true] #[.int .i64 q1, .int .i64 q2, .bool z2] #[.int .i64 r1, .int .i64 r2, .bool z3] #[.int .i64 1, .int .i64 0] #[.int .i64 1, .int .i64 0]
    rw [hW]
    clear hW
    refine bodyPost_ret_by (result_blk rfl rfl hs Tryd.underlying45 infoT) rfl ⟨rfl, hb⟩

end Go.Proofs.YtldkdgbcnbgmiaaDoor
