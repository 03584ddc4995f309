/-
  Texts of one's own, joined.
-/
import Derived.Test.YthnahalboomkoaaGreatJoined4
import Derived.Test.YthnahalboomkoaaGreatJoined25
import Derived.Test.YthnahalboomkoaaGreatJoined8

/-
  The walks of the specification's pairs.
  (-DROP-: what the seat lacks is left out.)
-/
namespace Go.Proofs.YthnahalboomkoaaGreat
open Go.RowKit

set_option maxHeartbeats 800000 in
set_option maxRecDepth 100000 in
theorem sTurn_in {x : Int × Int} (hx : In2 x) (w : World) :
    Calls Tryz.prog 170 #[tv x] w fun e w' => e = .returned (tv (tt x)) ∧ Below w.heap.size w w' := by
  obtain ⟨a, b⟩ := x
  have ha : fp a = a := fp_small hx.1.1 hx.1.2
  have HO : Hid (∀ w, Calls Tryz.prog 198 #[.int .i64 a] w fun e w' => e = .returned (.int .i64 a) ∧ w = w') := by
    have h := sOf_any a
    rw [ha] at h
    exact h
  have HS : Hid (∀ w, Calls Tryz.prog 165 #[.int .i64 0, .int .i64 b] w fun e w' => e = .returned (.int .i64 (tt (a, b)).2) ∧ w = w') := by
    have h := sSub_any 0 b
    rw [show fpSub 0 b = (tt (a, b)).2 by rw [fpSub_eq]; rfl] at h
    exact h
  show Calls _ _ _ _ fun e w' => e = .returned (.agg #[.int .i64 a, .int .i64 (tt (a, b)).2]) ∧ Below w.heap.size w w'
  generalize (tt (a, b)).2 = c at HS ⊢
  clear ha hx
  go_enter Tryz.func170, Tryz.ntmps170
  go_wp2
  obtain ⟨W, hW, hb, hx, hr⟩ := boxes1r w 103 103 #[.int .i64 a, .int .i64 b] #[.int .i64 0, .int .i64 0]
  rw [hW]
  clear hW
  refine wp_region_class 7 (fun wz => Below W.heap.size W wz) mixes (by kernel_rfl) (Below.refl _ _).drew ?_
  simp only [List.take_succ_cons, List.take_zero, List.drop_succ_cons, List.drop_zero]
  repeat (refine cls_step rfl (fun K hK => ⟨_, (fun w' hw => by have q0 := (hx.on hw hx.lt).cell 0; have q1 := (hx.on hw hx.lt).cell 1; go_simp; exact rfl), ?_⟩); go_simp; refine hK _ ?_; clear hK K)
  refine cls_call rfl (fun K hK => ⟨_, _, _, (fun w' => by go_simp <;> first | exact rfl | exact ⟨rfl, rfl⟩), (fun w' hw => calls_same hw (HO.out _)), ?_⟩); go_simp; refine hK _ ?_; clear hK K
  repeat (refine cls_step rfl (fun K hK => ⟨_, (fun w' hw => by have q0 := (hx.on hw hx.lt).cell 0; have q1 := (hx.on hw hx.lt).cell 1; go_simp; exact rfl), ?_⟩); go_simp; refine hK _ ?_; clear hK K)
  refine cls_call rfl (fun K hK => ⟨_, _, _, (fun w' => by go_simp <;> first | exact rfl | exact ⟨rfl, rfl⟩), (fun w' hw => calls_same hw (HS.out _)), ?_⟩); go_simp; refine hK _ ?_; clear hK K
  repeat (refine cls_step rfl (fun K hK => ⟨_, (fun w' hw => by go_simp; exact rfl), ?_⟩); go_simp; refine hK _ ?_; clear hK K)
  refine wq_nil ?_
  intro w' hw
  have hr1 := hr.on hw hr.lt
  go_wp2_with (refine store_blk (cs' := #[.int .i64 a, .int .i64 c]) rfl rfl rfl rfl rfl hr1 infoT rfl (ones2 _ _) ?_; intro V h5 hoth hbel; have hbV := hbel _ _ (by omega) (below_then hb hw); clear hoth hbel)
  refine bodyPost_ret_by (result_blk rfl rfl h5 Tryz.underlying103 infoT) rfl ⟨rfl, hbV⟩

/-- Three parameters in blocks of their own, the result's, and one more. -/
theorem boxes3r1 (w : World) (t1 t2 t3 tr t5 : TypeId) (c1 c2 c3 cr c5 : Array Value) : ∃ W, ((((w.alloc (.cells c1 t1)).alloc (.cells c2 t2)).alloc (.cells c3 t3)).alloc (.cells cr tr)).alloc (.cells c5 t5) = W ∧ Below w.heap.size w W ∧ Blk W w.heap.size t1 c1 ∧ Blk W (w.heap.size + 1) t2 c2 ∧ Blk W (w.heap.size + 1 + 1) t3 c3 ∧ Blk W (w.heap.size + 1 + 1 + 1) tr cr ∧ Blk W (w.heap.size + 1 + 1 + 1 + 1) t5 c5 :=
  ⟨_, rfl, (((((Below.refl _ _).alloc (Nat.le_refl _) _).alloc (by simp) _).alloc (by simp; omega) _).alloc (by simp; omega) _).alloc (by simp; omega) _, ((((Blk.new w t1 c1).alloc _).alloc _).alloc _).alloc _, (((Blk.newAt (by simp)).alloc _).alloc _).alloc _, ((Blk.newAt (by simp)).alloc _).alloc _, (Blk.newAt (by simp)).alloc _, Blk.newAt (by simp)⟩

theorem psl_slope (P Q : Pt) : pSl P Q = if (pSlope P Q).2 = true then some (pSlope P Q).1 else none := by
  unfold pSl pSlope
  by_cases h1 : P.1 = Q.1
  · by_cases h2 : fpAdd P.2.1 Q.2.1 = 0
    · simp [h1, h2]
    · simp [h1, h2]
  · simp [h1]

/-- The line, as it is told. -/
theorem plineB_told (P Q R : Pt) : pLineB P Q R = if P.2.2 || Q.2.2 || R.2.2 || !pOkB P || !pOkB Q || !pOkB R then (1, 0) else if (pSlope P Q).2 = true then (fpSub (fpSub 0 P.2.1) (fpMul (pSlope P Q).1 (fpSub (fpSub 0 R.1) P.1)), R.2.1) else (1, 0) := by
  unfold pLineB pLine
  rw [psl_slope]
  cases P.2.2 <;> cases Q.2.2 <;> cases R.2.2 <;> cases pOkB P <;> cases pOkB Q <;> cases pOkB R <;> cases (pSlope P Q).2 <;> simp

set_option maxHeartbeats 3200000 in
set_option maxRecDepth 100000 in
theorem sLine_any (P Q R : Pt) (w : World) :
    Calls Tryz.prog 199 #[pv P, pv Q, pv R] w fun e w' => e = .returned (tv (pLineB P Q R)) ∧ Below w.heap.size w w' := by
  rw [plineB_told]
  have HA : Hid (∀ w, Calls Tryz.prog 148 #[pv P] w fun e w' => e = .returned (.bool (pOkB P)) ∧ Below w.heap.size w w') := sPOk_any P
  have HB : Hid (∀ w, Calls Tryz.prog 148 #[pv Q] w fun e w' => e = .returned (.bool (pOkB Q)) ∧ Below w.heap.size w w') := sPOk_any Q
  have HC : Hid (∀ w, Calls Tryz.prog 148 #[pv R] w fun e w' => e = .returned (.bool (pOkB R)) ∧ Below w.heap.size w w') := sPOk_any R
  have HL : Hid (∀ w, Calls Tryz.prog 192 #[pv P, pv Q] w fun e w' => e = .returned (.tuple #[.int .i64 (pSlope P Q).1, .bool (pSlope P Q).2]) ∧ Below w.heap.size w w') := sSlope_any P Q
  generalize pOkB P = a at HA ⊢
  generalize pOkB Q = b at HB ⊢
  generalize pOkB R = c at HC ⊢
  generalize pSlope P Q = s at HL ⊢
  obtain ⟨l, ok⟩ := s
  obtain ⟨p1, p2, z1⟩ := P
  obtain ⟨q1, q2, z2⟩ := Q
  obtain ⟨r1, r2, z3⟩ := R
  unfold pv at HA HB HC HL ⊢
  simp only at HA HB HC HL ⊢
  cases z1
  · cases z2
    · cases z3
      · cases a
        · show Calls _ _ _ _ fun e w' => e = .returned (tv (1, 0)) ∧ Below w.heap.size w w'
          go_enter Tryz.func199, Tryz.ntmps199
          go_wp2_with fail
          obtain ⟨W, hW, hb, hp, hq, hr, hs, ho⟩ := boxes3r1 w 35 35 35 103 103 #[.int .i64 p1, .int .i64 p2, .bool false] #[.int .i64 q1, .int .i64 q2, .bool false] #[.int .i64 r1, .int .i64 r2, .bool false] #[.int .i64 0, .int .i64 0] #[.int .i64 1, .int .i64 0]
          rw [hW]
          clear hW
          refine (HA.out _).mono ?_
          rintro e w1 ⟨rfl, hw1⟩
          have hp1 := hp.on hw1 hp.lt
          have hq1 := hq.on hw1 hq.lt
          have hr1 := hr.on hw1 hr.lt
          have hs1 := hs.on hw1 hs.lt
          have ho1 := ho.on hw1 ho.lt
          have hb1 := below_then hb hw1
          clear hp hq hr hs ho hb hw1
          go_wp2_with (first | (refine load_blk rfl rfl rfl ho1 Tryz.underlying103 infoT ?_) | (refine store_blk (cs' := #[.int .i64 1, .int .i64 0]) rfl rfl rfl rfl rfl hs1 infoT rfl (ones2 _ _) ?_; intro V h5 hoth hbel; have hbV := hbel _ _ (by omega) hb1; clear hoth hbel))
          refine bodyPost_ret_by (result_blk rfl rfl h5 Tryz.underlying103 infoT) rfl ⟨rfl, hbV⟩
        · cases b
          · show Calls _ _ _ _ fun e w' => e = .returned (tv (1, 0)) ∧ Below w.heap.size w w'
            go_enter Tryz.func199, Tryz.ntmps199
            go_wp2_with fail
            obtain ⟨W, hW, hb, hp, hq, hr, hs, ho⟩ := boxes3r1 w 35 35 35 103 103 #[.int .i64 p1, .int .i64 p2, .bool false] #[.int .i64 q1, .int .i64 q2, .bool false] #[.int .i64 r1, .int .i64 r2, .bool false] #[.int .i64 0, .int .i64 0] #[.int .i64 1, .int .i64 0]
            rw [hW]
            clear hW
            refine (HA.out _).mono ?_
            rintro e w1 ⟨rfl, hw1⟩
            have hp1 := hp.on hw1 hp.lt
            have hq1 := hq.on hw1 hq.lt
            have hr1 := hr.on hw1 hr.lt
            have hs1 := hs.on hw1 hs.lt
            have ho1 := ho.on hw1 ho.lt
            have hb1 := below_then hb hw1
            clear hp hq hr hs ho hb hw1
            have q0 := hq1.cell 0
            have q1 := hq1.cell 1
            have q2 := hq1.cell 2
            go_wp2_with fail
            clear q0 q1 q2
            refine (HB.out _).mono ?_
            rintro e w2 ⟨rfl, hw2⟩
            have hp2 := hp1.on hw2 hp1.lt
            have hq2 := hq1.on hw2 hq1.lt
            have hr2 := hr1.on hw2 hr1.lt
            have hs2 := hs1.on hw2 hs1.lt
            have ho2 := ho1.on hw2 ho1.lt
            have hb2 := below_then hb1 hw2
            clear hp1 hq1 hr1 hs1 ho1 hb1 hw2
            go_wp2_with (first | (refine load_blk rfl rfl rfl ho2 Tryz.underlying103 infoT ?_) | (refine store_blk (cs' := #[.int .i64 1, .int .i64 0]) rfl rfl rfl rfl rfl hs2 infoT rfl (ones2 _ _) ?_; intro V h5 hoth hbel; have hbV := hbel _ _ (by omega) hb2; clear hoth hbel))
            refine bodyPost_ret_by (result_blk rfl rfl h5 Tryz.underlying103 infoT) rfl ⟨rfl, hbV⟩
          · cases c
            · show Calls _ _ _ _ fun e w' => e = .returned (tv (1, 0)) ∧ Below w.heap.size w w'
              go_enter Tryz.func199, Tryz.ntmps199
              go_wp2_with fail
              obtain ⟨W, hW, hb, hp, hq, hr, hs, ho⟩ := boxes3r1 w 35 35 35 103 103 #[.int .i64 p1, .int .i64 p2, .bool false] #[.int .i64 q1, .int .i64 q2, .bool false] #[.int .i64 r1, .int .i64 r2, .bool false] #[.int .i64 0, .int .i64 0] #[.int .i64 1, .int .i64 0]
              rw [hW]
              clear hW
              refine (HA.out _).mono ?_
              rintro e w1 ⟨rfl, hw1⟩
              have hp1 := hp.on hw1 hp.lt
              have hq1 := hq.on hw1 hq.lt
              have hr1 := hr.on hw1 hr.lt
              have hs1 := hs.on hw1 hs.lt
              have ho1 := ho.on hw1 ho.lt
              have hb1 := below_then hb hw1
              clear hp hq hr hs ho hb hw1
              have q0 := hq1.cell 0
              have q1 := hq1.cell 1
              have q2 := hq1.cell 2
              go_wp2_with fail
              clear q0 q1 q2
              refine (HB.out _).mono ?_
              rintro e w2 ⟨rfl, hw2⟩
              have hp2 := hp1.on hw2 hp1.lt
              have hq2 := hq1.on hw2 hq1.lt
              have hr2 := hr1.on hw2 hr1.lt
              have hs2 := hs1.on hw2 hs1.lt
              have ho2 := ho1.on hw2 ho1.lt
              have hb2 := below_then hb1 hw2
              clear hp1 hq1 hr1 hs1 ho1 hb1 hw2
              have q0 := hr2.cell 0
              have q1 := hr2.cell 1
              have q2 := hr2.cell 2
              go_wp2_with fail
              clear q0 q1 q2
              refine (HC.out _).mono ?_
              rintro e w3 ⟨rfl, hw3⟩
              have hp3 := hp2.on hw3 hp2.lt
              have hq3 := hq2.on hw3 hq2.lt
              have hr3 := hr2.on hw3 hr2.lt
              have hs3 := hs2.on hw3 hs2.lt
              have ho3 := ho2.on hw3 ho2.lt
              have hb3 := below_then hb2 hw3
              clear hp2 hq2 hr2 hs2 ho2 hb2 hw3
              go_wp2_with (first | (refine load_blk rfl rfl rfl ho3 Tryz.underlying103 infoT ?_) | (refine store_blk (cs' := #[.int .i64 1, .int .i64 0]) rfl rfl rfl rfl rfl hs3 infoT rfl (ones2 _ _) ?_; intro V h5 hoth hbel; have hbV := hbel _ _ (by omega) hb3; clear hoth hbel))
              refine bodyPost_ret_by (result_blk rfl rfl h5 Tryz.underlying103 infoT) rfl ⟨rfl, hbV⟩
            · cases ok
              · show Calls _ _ _ _ fun e w' => e = .returned (tv (1, 0)) ∧ Below w.heap.size w w'
                go_enter Tryz.func199, Tryz.ntmps199
                go_wp2_with fail
                obtain ⟨W, hW, hb, hp, hq, hr, hs, ho⟩ := boxes3r1 w 35 35 35 103 103 #[.int .i64 p1, .int .i64 p2, .bool false] #[.int .i64 q1, .int .i64 q2, .bool false] #[.int .i64 r1, .int .i64 r2, .bool false] #[.int .i64 0, .int .i64 0] #[.int .i64 1, .int .i64 0]
                rw [hW]
                clear hW
                refine (HA.out _).mono ?_
                rintro e w1 ⟨rfl, hw1⟩
                have hp1 := hp.on hw1 hp.lt
                have hq1 := hq.on hw1 hq.lt
                have hr1 := hr.on hw1 hr.lt
                have hs1 := hs.on hw1 hs.lt
                have ho1 := ho.on hw1 ho.lt
                have hb1 := below_then hb hw1
                clear hp hq hr hs ho hb hw1
                have q0 := hq1.cell 0
                have q1 := hq1.cell 1
                have q2 := hq1.cell 2
                go_wp2_with fail
                clear q0 q1 q2
                refine (HB.out _).mono ?_
                rintro e w2 ⟨rfl, hw2⟩
                have hp2 := hp1.on hw2 hp1.lt
                have hq2 := hq1.on hw2 hq1.lt
                have hr2 := hr1.on hw2 hr1.lt
                have hs2 := hs1.on hw2 hs1.lt
                have ho2 := ho1.on hw2 ho1.lt
                have hb2 := below_then hb1 hw2
                clear hp1 hq1 hr1 hs1 ho1 hb1 hw2
                have q0 := hr2.cell 0
                have q1 := hr2.cell 1
                have q2 := hr2.cell 2
                go_wp2_with fail
                clear q0 q1 q2
                refine (HC.out _).mono ?_
                rintro e w3 ⟨rfl, hw3⟩
                have hp3 := hp2.on hw3 hp2.lt
                have hq3 := hq2.on hw3 hq2.lt
                have hr3 := hr2.on hw3 hr2.lt
                have hs3 := hs2.on hw3 hs2.lt
                have ho3 := ho2.on hw3 ho2.lt
                have hb3 := below_then hb2 hw3
                clear hp2 hq2 hr2 hs2 ho2 hb2 hw3
                go_wp2_with (first | (refine load_blk rfl rfl rfl hp3 Tryz.underlying35 infoP ?_) | (refine load_blk rfl rfl rfl hq3 Tryz.underlying35 infoP ?_))
                refine (HL.out _).mono ?_
                rintro e w4 ⟨rfl, hw4⟩
                have hp4 := hp3.on hw4 hp3.lt
                have hq4 := hq3.on hw4 hq3.lt
                have hr4 := hr3.on hw4 hr3.lt
                have hs4 := hs3.on hw4 hs3.lt
                have ho4 := ho3.on hw4 ho3.lt
                have hb4 := below_then hb3 hw4
                clear hp3 hq3 hr3 hs3 ho3 hb3 hw4
                go_wp2_with (first | (refine load_blk rfl rfl rfl ho4 Tryz.underlying103 infoT ?_) | (refine store_blk (cs' := #[.int .i64 1, .int .i64 0]) rfl rfl rfl rfl rfl hs4 infoT rfl (ones2 _ _) ?_; intro V h5 hoth hbel; have hbV := hbel _ _ (by omega) hb4; clear hoth hbel))
                refine bodyPost_ret_by (result_blk rfl rfl h5 Tryz.underlying103 infoT) rfl ⟨rfl, hbV⟩
              · show Calls _ _ _ _ fun e w' => e = .returned (tv (fpSub (fpSub 0 p2) (fpMul l (fpSub (fpSub 0 r1) p1)), r2)) ∧ Below w.heap.size w w'
                go_enter Tryz.func199, Tryz.ntmps199
                go_wp2_with fail
                obtain ⟨W, hW, hb, hp, hq, hr, hs, ho⟩ := boxes3r1 w 35 35 35 103 103 #[.int .i64 p1, .int .i64 p2, .bool false] #[.int .i64 q1, .int .i64 q2, .bool false] #[.int .i64 r1, .int .i64 r2, .bool false] #[.int .i64 0, .int .i64 0] #[.int .i64 1, .int .i64 0]
                rw [hW]
                clear hW
                refine (HA.out _).mono ?_
                rintro e w1 ⟨rfl, hw1⟩
                have hp1 := hp.on hw1 hp.lt
                have hq1 := hq.on hw1 hq.lt
                have hr1 := hr.on hw1 hr.lt
                have hs1 := hs.on hw1 hs.lt
                have ho1 := ho.on hw1 ho.lt
                have hb1 := below_then hb hw1
                clear hp hq hr hs ho hb hw1
                have q0 := hq1.cell 0
                have q1 := hq1.cell 1
                have q2 := hq1.cell 2
                go_wp2_with fail
                clear q0 q1 q2
                refine (HB.out _).mono ?_
                rintro e w2 ⟨rfl, hw2⟩
                have hp2 := hp1.on hw2 hp1.lt
                have hq2 := hq1.on hw2 hq1.lt
                have hr2 := hr1.on hw2 hr1.lt
                have hs2 := hs1.on hw2 hs1.lt
                have ho2 := ho1.on hw2 ho1.lt
                have hb2 := below_then hb1 hw2
                clear hp1 hq1 hr1 hs1 ho1 hb1 hw2
                have q0 := hr2.cell 0
                have q1 := hr2.cell 1
                have q2 := hr2.cell 2
                go_wp2_with fail
                clear q0 q1 q2
                refine (HC.out _).mono ?_
                rintro e w3 ⟨rfl, hw3⟩
                have hp3 := hp2.on hw3 hp2.lt
                have hq3 := hq2.on hw3 hq2.lt
                have hr3 := hr2.on hw3 hr2.lt
                have hs3 := hs2.on hw3 hs2.lt
                have ho3 := ho2.on hw3 ho2.lt
                have hb3 := below_then hb2 hw3
                clear hp2 hq2 hr2 hs2 ho2 hb2 hw3
                go_wp2_with (first | (refine load_blk rfl rfl rfl hp3 Tryz.underlying35 infoP ?_) | (refine load_blk rfl rfl rfl hq3 Tryz.underlying35 infoP ?_))
                refine (HL.out _).mono ?_
                rintro e w4 ⟨rfl, hw4⟩
                have hp4 := hp3.on hw4 hp3.lt
                have hq4 := hq3.on hw4 hq3.lt
                have hr4 := hr3.on hw4 hr3.lt
                have hs4 := hs3.on hw4 hs3.lt
                have ho4 := ho3.on hw4 ho3.lt
                have hb4 := below_then hb3 hw4
                clear hp3 hq3 hr3 hs3 ho3 hb3 hw4
                go_wp2
                refine wp_region_class 6 (fun wz => Below w4.heap.size w4 wz) mixes (by kernel_rfl) (Below.refl _ _).drew ?_
                simp only [List.take_succ_cons, List.take_zero, List.drop_succ_cons, List.drop_zero]
                repeat (refine cls_step rfl (fun K hK => ⟨_, (fun w' hw => by have q0 := (hp4.on hw hp4.lt).cell 0; have q1 := (hp4.on hw hp4.lt).cell 1; have q2 := (hp4.on hw hp4.lt).cell 2; have q3 := (hr4.on hw hr4.lt).cell 0; have q4 := (hr4.on hw hr4.lt).cell 1; have q5 := (hr4.on hw hr4.lt).cell 2; go_simp; exact rfl), ?_⟩); go_simp; refine hK _ ?_; clear hK K)
                refine cls_call rfl (fun K hK => ⟨_, _, _, (fun w' => by go_simp <;> first | exact rfl | exact ⟨rfl, rfl⟩), (fun w' hw => calls_same hw (sSub_any _ _ _)), ?_⟩); go_simp; refine hK _ ?_; clear hK K
                repeat (refine cls_step rfl (fun K hK => ⟨_, (fun w' hw => by have q0 := (hp4.on hw hp4.lt).cell 0; have q1 := (hp4.on hw hp4.lt).cell 1; have q2 := (hp4.on hw hp4.lt).cell 2; have q3 := (hr4.on hw hr4.lt).cell 0; have q4 := (hr4.on hw hr4.lt).cell 1; have q5 := (hr4.on hw hr4.lt).cell 2; go_simp; exact rfl), ?_⟩); go_simp; refine hK _ ?_; clear hK K)
                refine cls_call rfl (fun K hK => ⟨_, _, _, (fun w' => by go_simp <;> first | exact rfl | exact ⟨rfl, rfl⟩), (fun w' hw => calls_same hw (sSub_any _ _ _)), ?_⟩); go_simp; refine hK _ ?_; clear hK K
                refine wq_nil ?_
                intro w' hw
                have hp5 := hp4.on hw hp4.lt
                have hr5 := hr4.on hw hr4.lt
                have hs5 := hs4.on hw hs4.lt
                have hb5 := below_then hb4 hw
                clear hp4 hq4 hr4 hs4 ho4 hb4 hw
                go_wp2
                refine wp_region_class 10 (fun wz => Below w'.heap.size w' wz) mixes (by kernel_rfl) (Below.refl _ _).drew ?_
                simp only [List.take_succ_cons, List.take_zero, List.drop_succ_cons, List.drop_zero]
                repeat (refine cls_step rfl (fun K hK => ⟨_, (fun w' hw => by have q0 := (hp5.on hw hp5.lt).cell 0; have q1 := (hp5.on hw hp5.lt).cell 1; have q2 := (hp5.on hw hp5.lt).cell 2; have q3 := (hr5.on hw hr5.lt).cell 0; have q4 := (hr5.on hw hr5.lt).cell 1; have q5 := (hr5.on hw hr5.lt).cell 2; go_simp; exact rfl), ?_⟩); go_simp; refine hK _ ?_; clear hK K)
                refine cls_call rfl (fun K hK => ⟨_, _, _, (fun w' => by go_simp <;> first | exact rfl | exact ⟨rfl, rfl⟩), (fun w' hw => calls_same hw (sSub_any _ _ _)), ?_⟩); go_simp; refine hK _ ?_; clear hK K
                repeat (refine cls_step rfl (fun K hK => ⟨_, (fun w' hw => by go_simp; exact rfl), ?_⟩); go_simp; refine hK _ ?_; clear hK K)
                refine cls_call rfl (fun K hK => ⟨_, _, _, (fun w' => by go_simp <;> first | exact rfl | exact ⟨rfl, rfl⟩), (fun w' hw => calls_same hw (sMul_any _ _ _)), ?_⟩); go_simp; refine hK _ ?_; clear hK K
                refine cls_call rfl (fun K hK => ⟨_, _, _, (fun w' => by go_simp <;> first | exact rfl | exact ⟨rfl, rfl⟩), (fun w' hw => calls_same hw (sSub_any _ _ _)), ?_⟩); go_simp; refine hK _ ?_; clear hK K
                repeat (refine cls_step rfl (fun K hK => ⟨_, (fun w' hw => by have q0 := (hp5.on hw hp5.lt).cell 0; have q1 := (hp5.on hw hp5.lt).cell 1; have q2 := (hp5.on hw hp5.lt).cell 2; have q3 := (hr5.on hw hr5.lt).cell 0; have q4 := (hr5.on hw hr5.lt).cell 1; have q5 := (hr5.on hw hr5.lt).cell 2; go_simp; exact rfl), ?_⟩); go_simp; refine hK _ ?_; clear hK K)
                refine wq_nil ?_
                intro w' hw
                have hs6 := hs5.on hw hs5.lt
                have hb6 := below_then hb5 hw
                clear hp5 hr5 hs5 hb5 hw
                go_wp2_with (refine store_blk (cs' := #[.int .i64 (fpSub (fpSub 0 p2) (fpMul l (fpSub (fpSub 0 r1) p1))), .int .i64 r2]) rfl rfl rfl rfl rfl hs6 infoT rfl (ones2 _ _) ?_; intro V h5 hoth hbel; have hbV := hbel _ _ (by omega) hb6; clear hoth hbel)
                refine bodyPost_ret_by (result_blk rfl rfl h5 Tryz.underlying103 infoT) rfl ⟨rfl, hbV⟩
      · show Calls _ _ _ _ fun e w' => e = .returned (tv (1, 0)) ∧ Below w.heap.size w w'
        go_enter Tryz.func199, Tryz.ntmps199
        go_wp2
        obtain ⟨W, hW, hb, hp, hq, hr, hs, ho⟩ := boxes3r1 w 35 35 35 103 103 #[.int .i64 p1, .int .i64 p2, .bool false] #[.int .i64 q1, .int .i64 q2, .bool false] #[.int .i64 r1, .int .i64 r2, .bool true] #[.int .i64 1, .int .i64 0] #[.int .i64 1, .int .i64 0]
        rw [hW]
        clear hW
        refine bodyPost_ret_by (result_blk rfl rfl hs Tryz.underlying103 infoT) rfl ⟨rfl, hb⟩
    · show Calls _ _ _ _ fun e w' => e = .returned (tv (1, 0)) ∧ Below w.heap.size w w'
      go_enter Tryz.func199, Tryz.ntmps199
      go_wp2
      obtain ⟨W, hW, hb, hp, hq, hr, hs, ho⟩ := boxes3r1 w 35 35 35 103 103 #[.int .i64 p1, .int .i64 p2, .bool false] #[.int .i64 q1, .int .i64 q2, .bool true] #[.int .i64 r1, .int .i64 r2, .bool z3] #[.int .i64 1, .int .i64 0] #[.int .i64 1, .int .i64 0]
      rw [hW]
      clear hW
      refine bodyPost_ret_by (result_blk rfl rfl hs Tryz.underlying103 infoT) rfl ⟨rfl, hb⟩
  · show Calls _ _ _ _ fun e w' => e = .returned (tv (1, 0)) ∧ Below w.heap.size w w'
    go_enter Tryz.func199, Tryz.ntmps199
    go_wp2
    obtain ⟨W, hW, hb, hp, hq, hr, hs, ho⟩ := boxes3r1 w 35 35 35 103 103 #[.int .i64 p1, .int .i64 p2, .bool true] #[.int .i64 q1, .int .i64 q2, .bool z2] #[.int .i64 r1, .int .i64 r2, .bool z3] #[.int .i64 1, .int .i64 0] #[.int .i64 1, .int .i64 0]
    rw [hW]
    clear hW
    refine bodyPost_ret_by (result_blk rfl rfl hs Tryz.underlying103 infoT) rfl ⟨rfl, hb⟩

end Go.Proofs.YthnahalboomkoaaGreat

/-
  The walks of the specification's pairs: Miller's number.
  (-DROP-: what the seat lacks is left out.)
-/
namespace Go.Proofs.YthnahalboomkoaaGreat
open Go.RowKit

/-- Miller's steps, one by one. -/
def mSt (P R : Pt) : Nat → (Int × Int) × Pt
  | 0 => ((1, 0), P)
  | k + 1 => mStepS P R (mBits.getD k false) (mSt P R k)

theorem mst_all (P R : Pt) : (mSt P R 9).1 = millS P R := rfl

theorem mbit {j : Nat} (h : j < 9) : 1009 / 2 ^ j % 2 = if mBits.getD (8 - j) false = true then 1 else 0 := by
  have key : ∀ j : Fin 9, 1009 / 2 ^ j.val % 2 = if mBits.getD (8 - j.val) false = true then 1 else 0 := by decide
  exact key ⟨j, h⟩

/-- What Miller's loop needs. -/
structure MilAt (w wr : World) (g : Nat) (P R : Pt) (s : (Int × Int) × Pt) : Prop where
  p : Blk wr g 35 #[.int .i64 P.1, .int .i64 P.2.1, .bool P.2.2]
  q : Blk wr (g + 1) 35 #[.int .i64 R.1, .int .i64 R.2.1, .bool R.2.2]
  r : Blk wr (g + 1 + 1) 103 #[.int .i64 0, .int .i64 0]
  f : Blk wr (g + 1 + 1 + 1) 103 #[.int .i64 s.1.1, .int .i64 s.1.2]
  t : Blk wr (g + 1 + 1 + 1 + 1) 35 #[.int .i64 s.2.1, .int .i64 s.2.2.1, .bool s.2.2.2]
  bel : Below w.heap.size w wr

set_option maxHeartbeats 3200000 in
set_option maxRecDepth 100000 in
theorem sMiller_any (P R : Pt) (w : World) :
    Calls Tryz.prog 168 #[pv P, pv R] w fun e w' => e = .returned (tv (millS P R)) ∧ Below w.heap.size w w' := by
  rw [← mst_all]
  obtain ⟨W, hW, hb, hp, hq, hr, hf, ht⟩ := boxes3r1 w 35 35 103 103 35 #[.int .i64 P.1, .int .i64 P.2.1, .bool P.2.2] #[.int .i64 R.1, .int .i64 R.2.1, .bool R.2.2] #[.int .i64 0, .int .i64 0] #[.int .i64 1, .int .i64 0] #[.int .i64 P.1, .int .i64 P.2.1, .bool P.2.2]
  have H0 : Hid (MilAt w W w.heap.size P R (mSt P R 0)) := ⟨hp, hq, hr, hf, ht, hb⟩
  clear hb hp hq hr hf ht
  go_enter Tryz.func168, Tryz.ntmps168
  go_wp2
  clear hW
  go_loopw [7] (fun i wr => ∃ j : Nat, i = .int .i64 ((j : Int) - 1) ∧ j ≤ 9 ∧ Hid (MilAt w wr w.heap.size P R (mSt P R (9 - j)))) (fun i _ => (intOf i + 1).toNat)
  case atStart => exact ⟨9, rfl, by omega, H0⟩
  case round =>
    obtain ⟨j, rfl, hj, HD⟩ := hrel
    clear H0
    by_cases h0 : j = 0
    · subst h0
      have hneg : ¬ (0 : Int) ≤ ((0 : Nat) : Int) - 1 := by omega
      have hf := HD.out.f
      have hr := HD.out.r
      have hB := HD.out.bel
      clear HD
      have HV : Hid (mSt P R (9 - 0) = mSt P R 9) := rfl
      rw [HV.out] at hf
      have hn1 : ((0 : Nat) : Int) - 1 = -1 := by omega
      rw [hn1] at hneg ⊢
      go_wp2_with (first | (refine load_blk rfl rfl rfl hf Tryz.underlying103 infoT ?_) | (refine store_blk (cs' := #[.int .i64 (mSt P R 9).1.1, .int .i64 (mSt P R 9).1.2]) rfl rfl rfl rfl rfl hr infoT rfl (ones2 _ _) ?_; intro V h5 hoth hbel; have hbV := hbel _ _ (by omega) hB; clear hoth hbel))
      refine bodyPost_ret_by (result_blk rfl rfl h5 Tryz.underlying103 infoT) rfl ⟨rfl, hbV⟩
    · obtain ⟨i, rfl⟩ : ∃ i, j = i + 1 := ⟨j - 1, by omega⟩
      have hi9 : i < 9 := by omega
      have hii : ((i + 1 : Nat) : Int) - 1 = (i : Int) := by omega
      have hi0 : (0 : Int) ≤ (i : Int) := by omega
      have hbit := mbit hi9
      have hst : mSt P R (9 - i) = mStepS P R (mBits.getD (8 - i) false) (mSt P R (8 - i)) := by
        rw [show 9 - i = (8 - i) + 1 by omega]; rfl
      rw [show 9 - (i + 1) = 8 - i by omega] at HD
      rw [hii]
      have HST : Hid (mSt P R (9 - i) = mStepS P R (mBits.getD (8 - i) false) (mSt P R (8 - i))) := hst
      clear hst
      generalize mSt P R (8 - i) = s at HD HST
      generalize mBits.getD (8 - i) false = bit at hbit HST
      obtain ⟨F, T⟩ := s
      have hp := HD.out.p
      have hq := HD.out.q
      have hr := HD.out.r
      have hf := HD.out.f
      have ht := HD.out.t
      have hB := HD.out.bel
      simp only at hf ht
      clear HD
      have hsh : (1009 : Int) / 2 ^ i = ((1009 / 2 ^ i : Nat) : Int) := by rw [Int.natCast_ediv, Int.natCast_pow]; rfl
      have hwu : IntKind.u64.wrap (i : Int) = (i : Int) := IntWalk.u64_in _ (by omega)
      have HM1 : Hid (∀ w, Calls Tryz.prog 103 #[tv F, tv F] w fun e w' => e = .returned (tv (tm F F)) ∧ Below w.heap.size w w') := sMul2_any F F
      have HL1 : Hid (∀ w, Calls Tryz.prog 199 #[pv T, pv T, pv R] w fun e w' => e = .returned (tv (pLineB T T R)) ∧ Below w.heap.size w w') := sLine_any T T R
      have HM2 : Hid (∀ w, Calls Tryz.prog 103 #[tv (tm F F), tv (pLineB T T R)] w fun e w' => e = .returned (tv (tm (tm F F) (pLineB T T R))) ∧ Below w.heap.size w w') := sMul2_any _ _
      have HS1 : Hid (∀ w, Calls Tryz.prog 74 #[pv T, pv T] w fun e w' => e = .returned (pv (pSum T T)) ∧ Below w.heap.size w w') := sPAdd_any T T
      have HL2 : Hid (∀ w, Calls Tryz.prog 199 #[pv (pSum T T), pv P, pv R] w fun e w' => e = .returned (tv (pLineB (pSum T T) P R)) ∧ Below w.heap.size w w') := sLine_any _ P R
      have HM3 : Hid (∀ w, Calls Tryz.prog 103 #[tv (tm (tm F F) (pLineB T T R)), tv (pLineB (pSum T T) P R)] w fun e w' => e = .returned (tv (tm (tm (tm F F) (pLineB T T R)) (pLineB (pSum T T) P R))) ∧ Below w.heap.size w w') := sMul2_any _ _
      have HS2 : Hid (∀ w, Calls Tryz.prog 74 #[pv (pSum T T), pv P] w fun e w' => e = .returned (pv (pSum (pSum T T) P)) ∧ Below w.heap.size w w') := sPAdd_any _ P
      have HST1 : Hid (mStepS P R true (F, T) = (tm (tm (tm F F) (pLineB T T R)) (pLineB (pSum T T) P R), pSum (pSum T T) P)) := rfl
      have HST0 : Hid (mStepS P R false (F, T) = (tm (tm F F) (pLineB T T R), pSum T T)) := rfl
      generalize tm (tm (tm F F) (pLineB T T R)) (pLineB (pSum T T) P R) = F3 at HM3 HST1
      generalize tm (tm F F) (pLineB T T R) = F2 at HM2 HM3 HST0
      generalize tm F F = F1 at HM1 HM2
      generalize pSum (pSum T T) P = T3 at HS2 HST1
      generalize pLineB (pSum T T) P R = L2 at HL2 HM3
      generalize pSum T T = T2 at HS1 HS2 HL2 HST0
      generalize pLineB T T R = L1 at HL1 HM2
      generalize 1009 / 2 ^ i = sh at hsh hbit
      have hrem : Int.tmod (sh : Int) 2 = if bit = true then 1 else 0 := by
        rw [Int.tmod_eq_emod_of_nonneg (Int.natCast_nonneg _)]
        cases bit
        · simp only [Bool.false_eq_true, if_false] at hbit ⊢; omega
        · simp only [if_true] at hbit ⊢; omega
      clear hbit hii
      go_wp2
      refine wp_region_class 8 (fun wz => Below wr.heap.size wr wz) mixes (by kernel_rfl) (Below.refl _ _).drew ?_
      simp only [List.take_succ_cons, List.take_zero, List.drop_succ_cons, List.drop_zero]
      repeat (refine cls_step rfl (fun K hK => ⟨_, (fun w' hw => by have q0 := (hf.on hw hf.lt).cell 0; have q1 := (hf.on hw hf.lt).cell 1; have q2 := (ht.on hw ht.lt).cell 0; have q3 := (ht.on hw ht.lt).cell 1; have q4 := (ht.on hw ht.lt).cell 2; have q5 := (hq.on hw hq.lt).cell 0; have q6 := (hq.on hw hq.lt).cell 1; have q7 := (hq.on hw hq.lt).cell 2; go_simp; exact rfl), ?_⟩); go_simp; refine hK _ ?_; clear hK K)
      refine cls_call rfl (fun K hK => ⟨_, _, _, (fun w' => by go_simp <;> first | exact rfl | exact ⟨rfl, rfl⟩), (fun w' hw => calls_below hw (HM1.out _)), ?_⟩); go_simp; refine hK _ ?_; clear hK K
      repeat (refine cls_step rfl (fun K hK => ⟨_, (fun w' hw => by have q0 := (hf.on hw hf.lt).cell 0; have q1 := (hf.on hw hf.lt).cell 1; have q2 := (ht.on hw ht.lt).cell 0; have q3 := (ht.on hw ht.lt).cell 1; have q4 := (ht.on hw ht.lt).cell 2; have q5 := (hq.on hw hq.lt).cell 0; have q6 := (hq.on hw hq.lt).cell 1; have q7 := (hq.on hw hq.lt).cell 2; go_simp; exact rfl), ?_⟩); go_simp; refine hK _ ?_; clear hK K)
      refine cls_call rfl (fun K hK => ⟨_, _, _, (fun w' => by go_simp <;> first | exact rfl | exact ⟨rfl, rfl⟩), (fun w' hw => calls_below hw (HL1.out _)), ?_⟩); go_simp; refine hK _ ?_; clear hK K
      refine cls_call rfl (fun K hK => ⟨_, _, _, (fun w' => by go_simp <;> first | exact rfl | exact ⟨rfl, rfl⟩), (fun w' hw => calls_below hw (HM2.out _)), ?_⟩); go_simp; refine hK _ ?_; clear hK K
      refine wq_nil ?_
      intro w' hw
      have hp1 := hp.on hw hp.lt
      have hq1 := hq.on hw hq.lt
      have hr1 := hr.on hw hr.lt
      have hf1 := hf.on hw hf.lt
      have ht1 := ht.on hw ht.lt
      have hB1 := below_then hB hw
      clear hp hq hr hf ht hB hw
      go_wp2_with (first | (refine store_blk (cs' := #[.int .i64 F2.1, .int .i64 F2.2]) rfl rfl rfl rfl rfl hf1 infoT rfl (ones2 _ _) ?_; intro V1 hf2 hoth hbel; have hp2 := hoth _ _ _ (by omega) hp1; have hq2 := hoth _ _ _ (by omega) hq1; have hr2 := hoth _ _ _ (by omega) hr1; have ht2 := hoth _ _ _ (by omega) ht1; have hB2 := hbel _ _ (by omega) hB1; clear hoth hbel hp1 hq1 hr1 hf1 ht1 hB1) | (refine load_blk rfl rfl rfl ht2 Tryz.underlying35 infoP ?_))
      refine (HS1.out _).mono ?_
      rintro e w3 ⟨rfl, hw⟩
      have hp3 := hp2.on hw hp2.lt
      have hq3 := hq2.on hw hq2.lt
      have hr3 := hr2.on hw hr2.lt
      have hf3 := hf2.on hw hf2.lt
      have ht3 := ht2.on hw ht2.lt
      have hB3 := below_then hB2 hw
      clear hp2 hq2 hr2 hf2 ht2 hB2 hw
      cases bit
      · simp only [Bool.false_eq_true, if_false] at hrem
        go_wp2_with (first | (refine store_blk (cs' := #[.int .i64 T2.1, .int .i64 T2.2.1, .bool T2.2.2]) rfl rfl rfl rfl rfl ht3 infoP rfl (ones3 _ _ _) ?_; intro V2 ht4 hoth hbel; have hp4 := hoth _ _ _ (by omega) hp3; have hq4 := hoth _ _ _ (by omega) hq3; have hr4 := hoth _ _ _ (by omega) hr3; have hf4 := hoth _ _ _ (by omega) hf3; have hB4 := hbel _ _ (by omega) hB3; clear hoth hbel hp3 hq3 hr3 hf3 ht3 hB3))
        have HD2 : Hid (MilAt w V2 w.heap.size P R (mSt P R (9 - i))) := by rw [HST.out, HST0.out]; exact ⟨hp4, hq4, hr4, hf4, ht4, hB4⟩
        clear hp4 hq4 hr4 hf4 ht4 hB4
        go_roundw
        case rel => exact ⟨i, by go_num, by omega, HD2⟩
        case measure => simp [intOf]
      · simp only [if_true] at hrem
        go_wp2_with (first | (refine store_blk (cs' := #[.int .i64 T2.1, .int .i64 T2.2.1, .bool T2.2.2]) rfl rfl rfl rfl rfl ht3 infoP rfl (ones3 _ _ _) ?_; intro V2 ht4 hoth hbel; have hp4 := hoth _ _ _ (by omega) hp3; have hq4 := hoth _ _ _ (by omega) hq3; have hr4 := hoth _ _ _ (by omega) hr3; have hf4 := hoth _ _ _ (by omega) hf3; have hB4 := hbel _ _ (by omega) hB3; clear hoth hbel hp3 hq3 hr3 hf3 ht3 hB3))
        refine wp_region_class 6 (fun wz => Below V2.heap.size V2 wz) mixes (by kernel_rfl) (Below.refl _ _).drew ?_
        simp only [List.take_succ_cons, List.take_zero, List.drop_succ_cons, List.drop_zero]
        repeat (refine cls_step rfl (fun K hK => ⟨_, (fun w' hw => by have q0 := (hf4.on hw hf4.lt).cell 0; have q1 := (hf4.on hw hf4.lt).cell 1; have q2 := (ht4.on hw ht4.lt).cell 0; have q3 := (ht4.on hw ht4.lt).cell 1; have q4 := (ht4.on hw ht4.lt).cell 2; have q5 := (hp4.on hw hp4.lt).cell 0; have q6 := (hp4.on hw hp4.lt).cell 1; have q7 := (hp4.on hw hp4.lt).cell 2; have q8 := (hq4.on hw hq4.lt).cell 0; have q9 := (hq4.on hw hq4.lt).cell 1; have q10 := (hq4.on hw hq4.lt).cell 2; go_simp; exact rfl), ?_⟩); go_simp; refine hK _ ?_; clear hK K)
        refine cls_call rfl (fun K hK => ⟨_, _, _, (fun w' => by go_simp <;> first | exact rfl | exact ⟨rfl, rfl⟩), (fun w' hw => calls_below hw (HL2.out _)), ?_⟩); go_simp; refine hK _ ?_; clear hK K
        refine cls_call rfl (fun K hK => ⟨_, _, _, (fun w' => by go_simp <;> first | exact rfl | exact ⟨rfl, rfl⟩), (fun w' hw => calls_below hw (HM3.out _)), ?_⟩); go_simp; refine hK _ ?_; clear hK K
        refine wq_nil ?_
        intro w' hw
        have hp5 := hp4.on hw hp4.lt
        have hq5 := hq4.on hw hq4.lt
        have hr5 := hr4.on hw hr4.lt
        have hf5 := hf4.on hw hf4.lt
        have ht5 := ht4.on hw ht4.lt
        have hB5 := below_then hB4 hw
        clear hp4 hq4 hr4 hf4 ht4 hB4 hw
        go_wp2_with (first | (refine store_blk (cs' := #[.int .i64 F3.1, .int .i64 F3.2]) rfl rfl rfl rfl rfl hf5 infoT rfl (ones2 _ _) ?_; intro V3 hf6 hoth hbel; have hp6 := hoth _ _ _ (by omega) hp5; have hq6 := hoth _ _ _ (by omega) hq5; have hr6 := hoth _ _ _ (by omega) hr5; have ht6 := hoth _ _ _ (by omega) ht5; have hB6 := hbel _ _ (by omega) hB5; clear hoth hbel hp5 hq5 hr5 hf5 ht5 hB5) | (refine load_blk rfl rfl rfl ht6 Tryz.underlying35 infoP ?_) | (refine load_blk rfl rfl rfl hp6 Tryz.underlying35 infoP ?_))
        refine (HS2.out _).mono ?_
        rintro e w7 ⟨rfl, hw⟩
        have hp7 := hp6.on hw hp6.lt
        have hq7 := hq6.on hw hq6.lt
        have hr7 := hr6.on hw hr6.lt
        have hf7 := hf6.on hw hf6.lt
        have ht7 := ht6.on hw ht6.lt
        have hB7 := below_then hB6 hw
        clear hp6 hq6 hr6 hf6 ht6 hB6 hw
        go_wp2_with (first | (refine store_blk (cs' := #[.int .i64 T3.1, .int .i64 T3.2.1, .bool T3.2.2]) rfl rfl rfl rfl rfl ht7 infoP rfl (ones3 _ _ _) ?_; intro V4 ht8 hoth hbel; have hp8 := hoth _ _ _ (by omega) hp7; have hq8 := hoth _ _ _ (by omega) hq7; have hr8 := hoth _ _ _ (by omega) hr7; have hf8 := hoth _ _ _ (by omega) hf7; have hB8 := hbel _ _ (by omega) hB7; clear hoth hbel hp7 hq7 hr7 hf7 ht7 hB7))
        have HD2 : Hid (MilAt w V4 w.heap.size P R (mSt P R (9 - i))) := by rw [HST.out, HST1.out]; exact ⟨hp8, hq8, hr8, hf8, ht8, hB8⟩
        clear hp8 hq8 hr8 hf8 ht8 hB8
        go_roundw
        case rel => exact ⟨i, by go_num, by omega, HD2⟩
        case measure => simp [intOf]

end Go.Proofs.YthnahalboomkoaaGreat

/-
  The walks of the specification's pairs: the pair, many pairs.
  (-DROP-: what the seat lacks is left out.)
-/
namespace Go.Proofs.YthnahalboomkoaaGreat
open Go.RowKit

set_option maxHeartbeats 1600000 in
set_option maxRecDepth 100000 in
theorem sPairing_any (P Q : Pt) (w : World) :
    Calls Tryz.prog 104 #[pv P, pv Q] w fun e w' => e = .returned (tv (pairS P Q)) ∧ Below w.heap.size w w' := by
  have HA : Hid (∀ w, Calls Tryz.prog 101 #[pv P] w fun e w' => e = .returned (.bool (inGB P)) ∧ Below w.heap.size w w') := sInG_any P
  have HB : Hid (∀ w, Calls Tryz.prog 101 #[pv Q] w fun e w' => e = .returned (.bool (inGB Q)) ∧ Below w.heap.size w w') := sInG_any Q
  have HM : Hid (∀ w, Calls Tryz.prog 168 #[pv P, pv Q] w fun e w' => e = .returned (tv (millS P Q)) ∧ Below w.heap.size w w') := sMiller_any P Q
  have hin := in2_mills P Q
  unfold pairS
  generalize inGB P = a at HA ⊢
  generalize inGB Q = b at HB ⊢
  generalize millS P Q = x at HM hin ⊢
  have HT : Hid (∀ w, Calls Tryz.prog 170 #[tv x] w fun e w' => e = .returned (tv (tt x)) ∧ Below w.heap.size w w') := sTurn_in hin
  have HI : Hid (∀ w, Calls Tryz.prog 171 #[tv x] w fun e w' => e = .returned (tv (ti x)) ∧ Below w.heap.size w w') := sInv2_any x
  have HX : Hid (∀ w, Calls Tryz.prog 103 #[tv (tt x), tv (ti x)] w fun e w' => e = .returned (tv (tm (tt x) (ti x))) ∧ Below w.heap.size w w') := sMul2_any _ _
  have HP : Hid (∀ w, Calls Tryz.prog 169 #[tv (tm (tt x) (ti x)), .int .i64 12] w fun e w' => e = .returned (tv (mEnd x)) ∧ Below w.heap.size w w') := by
    have h := sPow2_any (tm (tt x) (ti x)) 12 (by decide)
    rw [show tp (tm (tt x) (ti x)) 12 = mEnd x from tp_pw _ 12] at h
    exact h
  generalize mEnd x = E at HP ⊢
  generalize tm (tt x) (ti x) = M at HX HP
  generalize tt x = X1 at HT HX
  generalize ti x = X2 at HI HX
  clear hin
  obtain ⟨p1, p2, z1⟩ := P
  obtain ⟨q1, q2, z2⟩ := Q
  unfold pv at HA HB HM ⊢
  simp only at HA HB HM ⊢
  cases a
  · show Calls _ _ _ _ fun e w' => e = .returned (tv (1, 0)) ∧ Below w.heap.size w w'
    go_enter Tryz.func104, Tryz.ntmps104
    go_wp2_with fail
    obtain ⟨W, hW, hb, hp, hq, hr⟩ := boxes2r w 35 35 103 #[.int .i64 p1, .int .i64 p2, .bool z1] #[.int .i64 q1, .int .i64 q2, .bool z2] #[.int .i64 0, .int .i64 0]
    rw [hW]
    clear hW
    refine (HA.out _).mono ?_
    rintro e w1 ⟨rfl, hw1⟩
    have hp1 := hp.on hw1 hp.lt
    have hq1 := hq.on hw1 hq.lt
    have hr1 := hr.on hw1 hr.lt
    have hb1 := below_then hb hw1
    clear hp hq hr hb hw1
    go_wp2_with (refine store_blk (cs' := #[.int .i64 1, .int .i64 0]) rfl rfl rfl rfl rfl hr1 infoT rfl (ones2 _ _) ?_; intro V h5 hoth hbel; have hbV := hbel _ _ (by omega) hb1; clear hoth hbel)
    refine bodyPost_ret_by (result_blk rfl rfl h5 Tryz.underlying103 infoT) rfl ⟨rfl, hbV⟩
  · cases b
    · show Calls _ _ _ _ fun e w' => e = .returned (tv (1, 0)) ∧ Below w.heap.size w w'
      go_enter Tryz.func104, Tryz.ntmps104
      go_wp2_with fail
      obtain ⟨W, hW, hb, hp, hq, hr⟩ := boxes2r w 35 35 103 #[.int .i64 p1, .int .i64 p2, .bool z1] #[.int .i64 q1, .int .i64 q2, .bool z2] #[.int .i64 0, .int .i64 0]
      rw [hW]
      clear hW
      refine (HA.out _).mono ?_
      rintro e w1 ⟨rfl, hw1⟩
      have hp1 := hp.on hw1 hp.lt
      have hq1 := hq.on hw1 hq.lt
      have hr1 := hr.on hw1 hr.lt
      have hb1 := below_then hb hw1
      clear hp hq hr hb hw1
      have q0 := hq1.cell 0
      have q1 := hq1.cell 1
      have q2 := hq1.cell 2
      go_wp2_with fail
      clear q0 q1 q2
      refine (HB.out _).mono ?_
      rintro e w2 ⟨rfl, hw2⟩
      have hp2 := hp1.on hw2 hp1.lt
      have hq2 := hq1.on hw2 hq1.lt
      have hr2 := hr1.on hw2 hr1.lt
      have hb2 := below_then hb1 hw2
      clear hp1 hq1 hr1 hb1 hw2
      go_wp2_with (refine store_blk (cs' := #[.int .i64 1, .int .i64 0]) rfl rfl rfl rfl rfl hr2 infoT rfl (ones2 _ _) ?_; intro V h5 hoth hbel; have hbV := hbel _ _ (by omega) hb2; clear hoth hbel)
      refine bodyPost_ret_by (result_blk rfl rfl h5 Tryz.underlying103 infoT) rfl ⟨rfl, hbV⟩
    · cases z1
      · cases z2
        · show Calls _ _ _ _ fun e w' => e = .returned (tv E) ∧ Below w.heap.size w w'
          go_enter Tryz.func104, Tryz.ntmps104
          go_wp2_with fail
          obtain ⟨W, hW, hb, hp, hq, hr⟩ := boxes2r w 35 35 103 #[.int .i64 p1, .int .i64 p2, .bool false] #[.int .i64 q1, .int .i64 q2, .bool false] #[.int .i64 0, .int .i64 0]
          rw [hW]
          clear hW
          refine (HA.out _).mono ?_
          rintro e w1 ⟨rfl, hw1⟩
          have hp1 := hp.on hw1 hp.lt
          have hq1 := hq.on hw1 hq.lt
          have hr1 := hr.on hw1 hr.lt
          have hb1 := below_then hb hw1
          clear hp hq hr hb hw1
          have q0 := hq1.cell 0
          have q1 := hq1.cell 1
          have q2 := hq1.cell 2
          go_wp2_with fail
          clear q0 q1 q2
          refine (HB.out _).mono ?_
          rintro e w2 ⟨rfl, hw2⟩
          have hp2 := hp1.on hw2 hp1.lt
          have hq2 := hq1.on hw2 hq1.lt
          have hr2 := hr1.on hw2 hr1.lt
          have hb2 := below_then hb1 hw2
          clear hp1 hq1 hr1 hb1 hw2
          have p2c := hp2.cell 2
          have q2c := hq2.cell 2
          go_wp2_with (first | (refine load_blk rfl rfl rfl hp2 Tryz.underlying35 infoP ?_) | (refine load_blk rfl rfl rfl hq2 Tryz.underlying35 infoP ?_))
          clear p2c q2c
          refine (HM.out _).mono ?_
          rintro e w3 ⟨rfl, hw3⟩
          have hp3 := hp2.on hw3 hp2.lt
          have hq3 := hq2.on hw3 hq2.lt
          have hr3 := hr2.on hw3 hr2.lt
          have hb3 := below_then hb2 hw3
          clear hp2 hq2 hr2 hb2 hw3
          obtain ⟨V, hV, hbV, h5⟩ := box1 w3 103 #[.int .i64 x.1, .int .i64 x.2]
          go_wp2
          have hr4 := hr3.on hbV hr3.lt
          have hb4 := below_then hb3 hbV
          clear hV hbV hp3 hq3 hr3 hb3
          refine wp_region_class 6 (fun wz => Below V.heap.size V wz) mixes (by kernel_rfl) (Below.refl _ _).drew ?_
          simp only [List.take_succ_cons, List.take_zero, List.drop_succ_cons, List.drop_zero]
          repeat (refine cls_step rfl (fun K hK => ⟨_, (fun w' hw => by have q0 := (h5.on hw h5.lt).cell 0; have q1 := (h5.on hw h5.lt).cell 1; go_simp; exact rfl), ?_⟩); go_simp; refine hK _ ?_; clear hK K)
          refine cls_call rfl (fun K hK => ⟨_, _, _, (fun w' => by go_simp <;> first | exact rfl | exact ⟨rfl, rfl⟩), (fun w' hw => calls_below hw (HT.out _)), ?_⟩); go_simp; refine hK _ ?_; clear hK K
          repeat (refine cls_step rfl (fun K hK => ⟨_, (fun w' hw => by have q0 := (h5.on hw h5.lt).cell 0; have q1 := (h5.on hw h5.lt).cell 1; go_simp; exact rfl), ?_⟩); go_simp; refine hK _ ?_; clear hK K)
          refine cls_call rfl (fun K hK => ⟨_, _, _, (fun w' => by go_simp <;> first | exact rfl | exact ⟨rfl, rfl⟩), (fun w' hw => calls_below hw (HI.out _)), ?_⟩); go_simp; refine hK _ ?_; clear hK K
          refine cls_call rfl (fun K hK => ⟨_, _, _, (fun w' => by go_simp <;> first | exact rfl | exact ⟨rfl, rfl⟩), (fun w' hw => calls_below hw (HX.out _)), ?_⟩); go_simp; refine hK _ ?_; clear hK K
          refine cls_call rfl (fun K hK => ⟨_, _, _, (fun w' => by go_simp <;> first | exact rfl | exact ⟨rfl, rfl⟩), (fun w' hw => calls_below hw (HP.out _)), ?_⟩); go_simp; refine hK _ ?_; clear hK K
          refine wq_nil ?_
          intro w' hw
          have hr6 := hr4.on hw hr4.lt
          have hb6 := below_then hb4 hw
          clear hr4 hb4 hw h5
          go_wp2_with (refine store_blk (cs' := #[.int .i64 E.1, .int .i64 E.2]) rfl rfl rfl rfl rfl hr6 infoT rfl (ones2 _ _) ?_; intro U h7 hoth hbel; have hbU := hbel _ _ (by omega) hb6; clear hoth hbel)
          refine bodyPost_ret_by (result_blk rfl rfl h7 Tryz.underlying103 infoT) rfl ⟨rfl, hbU⟩
        · show Calls _ _ _ _ fun e w' => e = .returned (tv (1, 0)) ∧ Below w.heap.size w w'
          go_enter Tryz.func104, Tryz.ntmps104
          go_wp2_with fail
          obtain ⟨W, hW, hb, hp, hq, hr⟩ := boxes2r w 35 35 103 #[.int .i64 p1, .int .i64 p2, .bool false] #[.int .i64 q1, .int .i64 q2, .bool true] #[.int .i64 0, .int .i64 0]
          rw [hW]
          clear hW
          refine (HA.out _).mono ?_
          rintro e w1 ⟨rfl, hw1⟩
          have hp1 := hp.on hw1 hp.lt
          have hq1 := hq.on hw1 hq.lt
          have hr1 := hr.on hw1 hr.lt
          have hb1 := below_then hb hw1
          clear hp hq hr hb hw1
          have q0 := hq1.cell 0
          have q1 := hq1.cell 1
          have q2 := hq1.cell 2
          go_wp2_with fail
          clear q0 q1 q2
          refine (HB.out _).mono ?_
          rintro e w2 ⟨rfl, hw2⟩
          have hp2 := hp1.on hw2 hp1.lt
          have hq2 := hq1.on hw2 hq1.lt
          have hr2 := hr1.on hw2 hr1.lt
          have hb2 := below_then hb1 hw2
          clear hp1 hq1 hr1 hb1 hw2
          have p2c := hp2.cell 2
          have q2c := hq2.cell 2
          go_wp2_with (refine store_blk (cs' := #[.int .i64 1, .int .i64 0]) rfl rfl rfl rfl rfl hr2 infoT rfl (ones2 _ _) ?_; intro V h5 hoth hbel; have hbV := hbel _ _ (by omega) hb2; clear hoth hbel)
          refine bodyPost_ret_by (result_blk rfl rfl h5 Tryz.underlying103 infoT) rfl ⟨rfl, hbV⟩
      · show Calls _ _ _ _ fun e w' => e = .returned (tv (1, 0)) ∧ Below w.heap.size w w'
        go_enter Tryz.func104, Tryz.ntmps104
        go_wp2_with fail
        obtain ⟨W, hW, hb, hp, hq, hr⟩ := boxes2r w 35 35 103 #[.int .i64 p1, .int .i64 p2, .bool true] #[.int .i64 q1, .int .i64 q2, .bool z2] #[.int .i64 0, .int .i64 0]
        rw [hW]
        clear hW
        refine (HA.out _).mono ?_
        rintro e w1 ⟨rfl, hw1⟩
        have hp1 := hp.on hw1 hp.lt
        have hq1 := hq.on hw1 hq.lt
        have hr1 := hr.on hw1 hr.lt
        have hb1 := below_then hb hw1
        clear hp hq hr hb hw1
        have q0 := hq1.cell 0
        have q1 := hq1.cell 1
        have q2 := hq1.cell 2
        go_wp2_with fail
        clear q0 q1 q2
        refine (HB.out _).mono ?_
        rintro e w2 ⟨rfl, hw2⟩
        have hp2 := hp1.on hw2 hp1.lt
        have hq2 := hq1.on hw2 hq1.lt
        have hr2 := hr1.on hw2 hr1.lt
        have hb2 := below_then hb1 hw2
        clear hp1 hq1 hr1 hb1 hw2
        have p2c := hp2.cell 2
        have q2c := hq2.cell 2
        go_wp2_with (refine store_blk (cs' := #[.int .i64 1, .int .i64 0]) rfl rfl rfl rfl rfl hr2 infoT rfl (ones2 _ _) ?_; intro V h5 hoth hbel; have hbV := hbel _ _ (by omega) hb2; clear hoth hbel)
        refine bodyPost_ret_by (result_blk rfl rfl h5 Tryz.underlying103 infoT) rfl ⟨rfl, hbV⟩

/-- Many pairs: whether all are in the group, and their product, of the first n. -/
def allG (f g : Nat → Pt) : Nat → Bool
  | 0 => true
  | n + 1 => allG f g n && (inGB (f n) && inGB (g n))
def prodN (f g : Nat → Pt) : Nat → Int × Int
  | 0 => (1, 0)
  | n + 1 => tm (prodN f g n) (pairS (f n) (g n))
def rightN (f g : Nat → Pt) (n : Nat) : Bool := allG f g n && decide (prodN f g n = (1, 0))

theorem allG_more (f g : Nat → Pt) {k : Nat} (h : allG f g k = false) : ∀ n, k ≤ n → allG f g n = false
  | 0, hk => by rw [show (0 : Nat) = k by omega]; exact h
  | n + 1, hk => by
    by_cases e : k = n + 1
    · rw [← e]; exact h
    · show (allG f g n && _) = false
      rw [allG_more f g h n (by omega), Bool.false_and]

end Go.Proofs.YthnahalboomkoaaGreat
