/-
  The walk of the law that points come back from their texts.
-/
import Derived.Test.YtdeahlljllelaaaPtDraw4
import Derived.Test.YtdeahlljllelaaaTorPure
import Derived.Test.YtdeahlljllelaaaPlaces
import Derived.Test.YtdeahlljllelaaaByteArg
import Derived.Test.YtdeahlljllelaaaPtI
namespace Go.Proofs.Ytdeahlljllelaaa
open Go.RowKit

theorem ptext3 {P : Pt} (h : OnC P) : (ptText P).size = 3 := by
  show (ptBytes P).toArray.size = 3
  unfold ptBytes
  rw [pokB.2 h.1, h.2]
  rfl

set_option maxHeartbeats 6400000 in
set_option maxRecDepth 100000 in
theorem lawPoints (a : Option Addr) (len cap : Nat) (hm : len ≤ 9223372036854775807) (w : World) (hA : ArgAt w a len w.heap.size) :
    Calls Try.prog 4 #[.slice a len cap] w fun e w' => e = .returned (.bool true) ∧ Below w.heap.size w w' := by
  have HA : Hid (ArgAt w a len w.heap.size) := hA
  clear hA
  by_cases hb : 1048576 < len
  · have hd : decide (1048576 < len) = true := decide_eq_true hb
    go_enter Try.func4, Try.ntmps4
    go_wp2_with (go_at_call 9; refine (big_any _ _ _ hm _).mono ?_; rintro e w0 ⟨rfl, rfl⟩)
    go_ret
    exact ⟨rfl, Below.refl _ _⟩
  have hd : decide (1048576 < len) = false := decide_eq_false hb
  have hm1 : len ≤ 1048576 := by omega
  go_enter Try.func4, Try.ntmps4
  go_wp2_with (go_at_call 9; refine (big_any _ _ _ hm _).mono ?_; rintro e w0 ⟨rfl, rfl⟩)
  refine (drawCurve_any len cap a hm1 _ HA.out).mono ?_
  rintro e w1 ⟨P, Q, R, rfl, ⟨hP, hQ, _⟩, hb1⟩
  have HA0 : Hid (ArgAt w1 a len w1.heap.size) := HA.out.up hb1
  have HTx : Hid (∀ w, Calls Try.prog 16 #[pv P] w fun e w' => e = .returned (.string (ptText P)) ∧ Below w.heap.size w w') := iPText_any P
  have HRd : Hid (∀ w, Calls Try.prog 17 #[.string (ptText P)] w fun e w' => e = .returned (.tuple #[pv P, .bool true]) ∧ Below w.heap.size w w') := by
    have h := iRead_any (ptText P) (by have := ptText_size P; omega)
    rw [rdPt_back hP.1] at h
    exact h
  have hz3 := ptext3 hP
  have HCl : Hid (∀ w, Calls Try.prog 15 #[.int .i64 12, pv Q] w fun e w' => e = .returned (pv (pMul Q 12)) ∧ Below w.heap.size w w') := by
    have h := iTimes_any 12 Q
    rw [show pTimes 12 Q = pMul Q 12 from ptimes_small hQ.1 (n := 12) (by decide)] at h
    exact h
  have HCg : Hid (∀ w, Calls Try.prog 24 #[pv (pMul Q 12)] w fun e w' => e = .returned (.bool true) ∧ Below w.heap.size w w') := by
    have h := iInG_any (pMul Q 12)
    rw [ing_iff.2 ⟨pmul_ok hQ.1 12, by rw [pmul_mul hQ.1]; exact pmul_all hQ.1⟩] at h
    exact h
  have HBa : Hid (∀ w, Calls Try.prog 30 #[] w fun e w' => e = .returned (pv pB) ∧ Below w.heap.size w w') := iBase_any
  have HBg : Hid (∀ w, Calls Try.prog 24 #[pv pB] w fun e w' => e = .returned (.bool true) ∧ Below w.heap.size w w') := by
    have h := iInG_any pB
    rw [ing_iff.2 ⟨pb_ok, b1009⟩] at h
    exact h
  generalize ptText P = t at HTx HRd hz3
  generalize pMul Q 12 = QC at HCl HCg
  generalize pB = B at HBa HBg
  clear hb hd HA hP hQ
  obtain ⟨W1, hE1, hbW1, ta_1, tb_1, tc_1⟩ := boxes3 w1 25 25 25 #[.int .i64 P.1, .int .i64 P.2.1, .bool P.2.2] #[.int .i64 Q.1, .int .i64 Q.2.1, .bool Q.2.2] #[.int .i64 R.1, .int .i64 R.2.1, .bool R.2.2]
  go_wp2_with (first | (refine load_blk rfl rfl rfl ta_1 Try.underlying25 infoP ?_))
  have hB1 := below_then hb1 hbW1
  have HA1 : Hid (ArgAt W1 a len W1.heap.size) := HA0.out.up hbW1
  clear hb1 hbW1 hE1 HA0
  refine (HTx.out _).mono ?_
  rintro e w2_ ⟨rfl, hb2⟩
  have ta_2 := ta_1.on hb2 ta_1.lt
  have tb_2 := tb_1.on hb2 tb_1.lt
  have tc_2 := tc_1.on hb2 tc_1.lt
  have hB2 := below_then hB1 hb2
  have HA2 : Hid (ArgAt w2_ a len w2_.heap.size) := HA1.out.up hb2
  clear ta_1 tb_1 tc_1 hB1 hb2 HA1
  go_wp2_with fail
  refine (HRd.out _).mono ?_
  rintro e w3_ ⟨rfl, hb3⟩
  have ta_3 := ta_2.on hb3 ta_2.lt
  have tb_3 := tb_2.on hb3 tb_2.lt
  have hB3 := below_then hB2 hb3
  have HA3 : Hid (ArgAt w3_ a len w3_.heap.size) := HA2.out.up hb3
  clear ta_2 tb_2 tc_2 hB2 hb3 HA2
  obtain ⟨W4, hE4, hbW4, tx_4⟩ := box1 w3_ 25 #[.int .i64 P.1, .int .i64 P.2.1, .bool P.2.2]
  go_wp2_with fail
  have ta_4 := ta_3.on hbW4 ta_3.lt
  have tb_4 := tb_3.on hbW4 tb_3.lt
  have hB4 := below_then hB3 hbW4
  have HA4 : Hid (ArgAt W4 a len W4.heap.size) := HA3.out.up hbW4
  clear ta_3 tb_3 hB3 hbW4 hE4 HA3
  refine (drawRead_any len cap a hm1 _ HA4.out).mono ?_
  rintro e w5_ ⟨u, rfl, hu, hb5⟩
  have HRu : Hid (∀ w, Calls Try.prog 17 #[.string u] w fun e w' => e = .returned (rv (rdPt u)) ∧ Below w.heap.size w w') := iRead_any u (by omega)
  have HRs : Hid (∀ w, Calls Try.prog 19 #[.string u] w fun e w' => e = .returned (rv (rdPt u)) ∧ Below w.heap.size w w') := sRead_any u (by omega)
  have HTu : Hid ((rdPt u).2 = true → ∀ w, Calls Try.prog 16 #[pv (rdPt u).1] w fun e w' => e = .returned (.string u) ∧ Below w.heap.size w w') := fun h => by have h2 := iPText_any (rdPt u).1; rw [rdPt_text h] at h2; exact h2
  generalize rdPt u = r at HRu HRs HTu
  obtain ⟨Y, may⟩ := r
  unfold rv at HRu HRs
  simp only at HRu HRs HTu
  clear hu
  have ta_5 := ta_4.on hb5 ta_4.lt
  have tb_5 := tb_4.on hb5 tb_4.lt
  have tx_5 := tx_4.on hb5 tx_4.lt
  have hB5 := below_then hB4 hb5
  have HA5 : Hid (ArgAt w5_ a len w5_.heap.size) := HA4.out.up hb5
  clear ta_4 tb_4 tx_4 hB4 hb5 HA4
  go_wp2_with fail
  refine (HRu.out _).mono ?_
  rintro e w6_ ⟨rfl, hb6⟩
  have ta_6 := ta_5.on hb6 ta_5.lt
  have tb_6 := tb_5.on hb6 tb_5.lt
  have tx_6 := tx_5.on hb6 tx_5.lt
  have hB6 := below_then hB5 hb6
  have HA6 : Hid (ArgAt w6_ a len w6_.heap.size) := HA5.out.up hb6
  clear ta_5 tb_5 tx_5 hB5 hb6 HA5
  obtain ⟨W7, hE7, hbW7, ty_7⟩ := box1 w6_ 25 #[.int .i64 Y.1, .int .i64 Y.2.1, .bool Y.2.2]
  go_wp2_with fail
  have ta_7 := ta_6.on hbW7 ta_6.lt
  have tb_7 := tb_6.on hbW7 tb_6.lt
  have tx_7 := tx_6.on hbW7 tx_6.lt
  have hB7 := below_then hB6 hbW7
  have HA7 : Hid (ArgAt W7 a len W7.heap.size) := HA6.out.up hbW7
  clear ta_6 tb_6 tx_6 hB6 hbW7 hE7 HA6
  refine (HRs.out _).mono ?_
  rintro e w8_ ⟨rfl, hb8⟩
  have ta_8 := ta_7.on hb8 ta_7.lt
  have tb_8 := tb_7.on hb8 tb_7.lt
  have tx_8 := tx_7.on hb8 tx_7.lt
  have ty_8 := ty_7.on hb8 ty_7.lt
  have hB8 := below_then hB7 hb8
  have HA8 : Hid (ArgAt w8_ a len w8_.heap.size) := HA7.out.up hb8
  clear ta_7 tb_7 tx_7 ty_7 hB7 hb8 HA7
  obtain ⟨W9, hE9, hbW9, tz_9⟩ := box1 w8_ 25 #[.int .i64 Y.1, .int .i64 Y.2.1, .bool Y.2.2]
  go_wp2_with fail
  have ta_9 := ta_8.on hbW9 ta_8.lt
  have tb_9 := tb_8.on hbW9 tb_8.lt
  have tx_9 := tx_8.on hbW9 tx_8.lt
  have ty_9 := ty_8.on hbW9 ty_8.lt
  have hB9 := below_then hB8 hbW9
  have HA9 : Hid (ArgAt W9 a len W9.heap.size) := HA8.out.up hbW9
  clear ta_8 tb_8 tx_8 ty_8 hB8 hbW9 hE9 HA8
  refine (drawInGroup_any len cap a hm1 _ HA9.out).mono ?_
  rintro e w10_ ⟨D, rfl, hb10⟩
  have HGi : Hid (∀ w, Calls Try.prog 24 #[pv D] w fun e w' => e = .returned (.bool (inGB D)) ∧ Below w.heap.size w w') := iInG_any D
  have HGs : Hid (∀ w, Calls Try.prog 25 #[pv D] w fun e w' => e = .returned (.bool (inGB D)) ∧ Below w.heap.size w w') := sInG_any D
  have HOi : Hid (∀ w, Calls Try.prog 14 #[pv D] w fun e w' => e = .returned (.bool (pOkB D)) ∧ Below w.heap.size w w') := iPOk_any D
  have HOs : Hid (∀ w, Calls Try.prog 31 #[pv D] w fun e w' => e = .returned (.bool (pOkB D)) ∧ Below w.heap.size w w') := sPOk_any D
  generalize inGB D = gD at HGi HGs
  generalize pOkB D = oD at HOi HOs
  have ta_10 := ta_9.on hb10 ta_9.lt
  have tb_10 := tb_9.on hb10 tb_9.lt
  have tx_10 := tx_9.on hb10 tx_9.lt
  have ty_10 := ty_9.on hb10 ty_9.lt
  have hB10 := below_then hB9 hb10
  have HA10 : Hid (ArgAt w10_ a len w10_.heap.size) := HA9.out.up hb10
  clear ta_9 tb_9 tx_9 ty_9 tz_9 hB9 hb10 HA9
  obtain ⟨W11, hE11, hbW11, tp_11⟩ := box1 w10_ 25 #[.int .i64 D.1, .int .i64 D.2.1, .bool D.2.2]
  go_wp2_with fail
  have ta_11 := ta_10.on hbW11 ta_10.lt
  have tb_11 := tb_10.on hbW11 tb_10.lt
  have tx_11 := tx_10.on hbW11 tx_10.lt
  have ty_11 := ty_10.on hbW11 ty_10.lt
  have hB11 := below_then hB10 hbW11
  have HA11 : Hid (ArgAt W11 a len W11.heap.size) := HA10.out.up hbW11
  clear ta_10 tb_10 tx_10 ty_10 hB10 hbW11 hE11 HA10
  refine (drawPAdd_any len cap a hm1 _ HA11.out).mono ?_
  rintro e w12_ ⟨E, F, rfl, hb12⟩
  have HSi : Hid (∀ w, Calls Try.prog 11 #[pv E, pv F] w fun e w' => e = .returned (pv (pSum E F)) ∧ Below w.heap.size w w') := iPAdd_any E F
  have HSs : Hid (∀ w, Calls Try.prog 26 #[pv E, pv F] w fun e w' => e = .returned (pv (pSum E F)) ∧ Below w.heap.size w w') := sPAdd_any E F
  generalize pSum E F = S at HSi HSs
  have ta_12 := ta_11.on hb12 ta_11.lt
  have tb_12 := tb_11.on hb12 tb_11.lt
  have tx_12 := tx_11.on hb12 tx_11.lt
  have ty_12 := ty_11.on hb12 ty_11.lt
  have tp_12 := tp_11.on hb12 tp_11.lt
  have hB12 := below_then hB11 hb12
  have HA12 : Hid (ArgAt w12_ a len w12_.heap.size) := HA11.out.up hb12
  clear ta_11 tb_11 tx_11 ty_11 tp_11 hB11 hb12 HA11
  obtain ⟨W13, hE13, hbW13, tq_13, tr_13⟩ := boxes1r w12_ 25 25 #[.int .i64 E.1, .int .i64 E.2.1, .bool E.2.2] #[.int .i64 F.1, .int .i64 F.2.1, .bool F.2.2]
  go_wp2_with fail
  have ta_13 := ta_12.on hbW13 ta_12.lt
  have tb_13 := tb_12.on hbW13 tb_12.lt
  have tx_13 := tx_12.on hbW13 tx_12.lt
  have ty_13 := ty_12.on hbW13 ty_12.lt
  have tp_13 := tp_12.on hbW13 tp_12.lt
  have hB13 := below_then hB12 hbW13
  have HA13 : Hid (ArgAt W13 a len W13.heap.size) := HA12.out.up hbW13
  clear ta_12 tb_12 tx_12 ty_12 tp_12 hB12 hbW13 hE13 HA12
  refine (drawTimes_any len cap a hm1 _ HA13.out).mono ?_
  rintro e w14_ ⟨k, G, rfl, hk, hb14⟩
  have HKi : Hid (∀ w, Calls Try.prog 15 #[.int .i64 k, pv G] w fun e w' => e = .returned (pv (pTimes k G)) ∧ Below w.heap.size w w') := iTimes_any k G
  have HKs : Hid (∀ w, Calls Try.prog 27 #[.int .i64 k, pv G] w fun e w' => e = .returned (pv (pTimes k G)) ∧ Below w.heap.size w w') := sTimes_any k G
  generalize pTimes k G = M at HKi HKs
  clear hk
  have ta_14 := ta_13.on hb14 ta_13.lt
  have tb_14 := tb_13.on hb14 tb_13.lt
  have tx_14 := tx_13.on hb14 tx_13.lt
  have ty_14 := ty_13.on hb14 ty_13.lt
  have tp_14 := tp_13.on hb14 tp_13.lt
  have tq_14 := tq_13.on hb14 tq_13.lt
  have tr_14 := tr_13.on hb14 tr_13.lt
  have hB14 := below_then hB13 hb14
  have HA14 : Hid (ArgAt w14_ a len w14_.heap.size) := HA13.out.up hb14
  clear ta_13 tb_13 tx_13 ty_13 tp_13 tq_13 tr_13 hB13 hb14 HA13
  obtain ⟨W15, hE15, hbW15, ts_15⟩ := box1 w14_ 25 #[.int .i64 G.1, .int .i64 G.2.1, .bool G.2.2]
  go_wp2_with fail
  have ta_15 := ta_14.on hbW15 ta_14.lt
  have tb_15 := tb_14.on hbW15 tb_14.lt
  have tx_15 := tx_14.on hbW15 tx_14.lt
  have ty_15 := ty_14.on hbW15 ty_14.lt
  have tp_15 := tp_14.on hbW15 tp_14.lt
  have tq_15 := tq_14.on hbW15 tq_14.lt
  have tr_15 := tr_14.on hbW15 tr_14.lt
  have hB15 := below_then hB14 hbW15
  have HA15 : Hid (ArgAt W15 a len W15.heap.size) := HA14.out.up hbW15
  clear ta_14 tb_14 tx_14 ty_14 tp_14 tq_14 tr_14 hB14 hbW15 hE15 HA14
  refine (drawSum_any len cap a hm1 _ HA15.out).mono ?_
  rintro e w16_ ⟨la, ln, lc, lf, rfl, hln, hL, hb16⟩
  have ta_16 := ta_15.on hb16 ta_15.lt
  have tb_16 := tb_15.on hb16 tb_15.lt
  have tx_16 := tx_15.on hb16 tx_15.lt
  have ty_16 := ty_15.on hb16 ty_15.lt
  have tp_16 := tp_15.on hb16 tp_15.lt
  have tq_16 := tq_15.on hb16 tq_15.lt
  have tr_16 := tr_15.on hb16 tr_15.lt
  have ts_16 := ts_15.on hb16 ts_15.lt
  have HL16 : Hid (PtsAt w16_ la ln w16_.heap.size lf) := hL
  have hB16 := below_then hB15 hb16
  clear ta_15 tb_15 tx_15 ty_15 tp_15 tq_15 tr_15 ts_15 hB15 HA15 hb16 hL
  have HZi : Hid (∀ W, PtsAt W la ln W.heap.size lf → Calls Try.prog 28 #[.slice la ln lc] W fun e w' => e = .returned (pv (sumN lf ln)) ∧ Below W.heap.size W w') := fun W h => iSumP_any la ln lc (by omega) lf W h
  have HZs : Hid (∀ W, PtsAt W la ln W.heap.size lf → Calls Try.prog 29 #[.slice la ln lc] W fun e w' => e = .returned (pv (sumN lf ln)) ∧ Below W.heap.size W w') := fun W h => sSumP_any la ln lc (by omega) lf W h
  generalize sumN lf ln = Z at HZi HZs
  go_wp2
  cases may
  · skip
    refine wp_region_class 74 (fun wz => Below w16_.heap.size w16_ wz) mixes (by kernel_rfl) (Below.refl _ _).drew ?_
    simp only [List.append, List.take_succ_cons, List.take_zero, List.drop_succ_cons, List.drop_zero]
    repeat (refine cls_stepG rfl (fun K hK => ⟨_, (fun w' hw => by have q0 := (tx_16.on hw tx_16.lt).cell 0; have q1 := (tx_16.on hw tx_16.lt).cell 1; have q2 := (tx_16.on hw tx_16.lt).cell 2; have q3 := (ta_16.on hw ta_16.lt).cell 0; have q4 := (ta_16.on hw ta_16.lt).cell 1; have q5 := (ta_16.on hw ta_16.lt).cell 2; go_simp; exact rfl), ?_⟩); go_simp; refine hK _ ?_; clear hK K)
    iterate 4 (refine cls_skip rfl (fun K hK => ?_); go_simp; refine hK _ ?_; clear hK K)
    repeat (refine cls_stepG rfl (fun K hK => ⟨_, (fun w' hw => by have q0 := (tb_16.on hw tb_16.lt).cell 0; have q1 := (tb_16.on hw tb_16.lt).cell 1; have q2 := (tb_16.on hw tb_16.lt).cell 2; go_simp; exact rfl), ?_⟩); go_simp; refine hK _ ?_; clear hK K)
    refine cls_callG rfl (fun K hK => ⟨_, _, _, (fun w' => by go_simp <;> first | exact rfl | exact ⟨rfl, rfl⟩), (fun w' hw => calls_below hw (HCl.out _)), ?_⟩); go_simp; refine hK _ ?_; clear hK K
    refine cls_callG rfl (fun K hK => ⟨_, _, _, (fun w' => by go_simp <;> first | exact rfl | exact ⟨rfl, rfl⟩), (fun w' hw => calls_below hw (HCg.out _)), ?_⟩); go_simp; refine hK _ ?_; clear hK K
    repeat (refine cls_stepG rfl (fun K hK => ⟨_, (fun w' hw => by have q0 := (tp_16.on hw tp_16.lt).cell 0; have q1 := (tp_16.on hw tp_16.lt).cell 1; have q2 := (tp_16.on hw tp_16.lt).cell 2; go_simp; exact rfl), ?_⟩); go_simp; refine hK _ ?_; clear hK K)
    refine cls_callG rfl (fun K hK => ⟨_, _, _, (fun w' => by go_simp <;> first | exact rfl | exact ⟨rfl, rfl⟩), (fun w' hw => calls_below hw (HGi.out _)), ?_⟩); go_simp; refine hK _ ?_; clear hK K
    repeat (refine cls_stepG rfl (fun K hK => ⟨_, (fun w' hw => by have q0 := (tp_16.on hw tp_16.lt).cell 0; have q1 := (tp_16.on hw tp_16.lt).cell 1; have q2 := (tp_16.on hw tp_16.lt).cell 2; go_simp; exact rfl), ?_⟩); go_simp; refine hK _ ?_; clear hK K)
    refine cls_callG rfl (fun K hK => ⟨_, _, _, (fun w' => by go_simp <;> first | exact rfl | exact ⟨rfl, rfl⟩), (fun w' hw => calls_below hw (HGs.out _)), ?_⟩); go_simp; refine hK _ ?_; clear hK K
    repeat (refine cls_stepG rfl (fun K hK => ⟨_, (fun w' hw => by have q0 := (tq_16.on hw tq_16.lt).cell 0; have q1 := (tq_16.on hw tq_16.lt).cell 1; have q2 := (tq_16.on hw tq_16.lt).cell 2; have q3 := (tr_16.on hw tr_16.lt).cell 0; have q4 := (tr_16.on hw tr_16.lt).cell 1; have q5 := (tr_16.on hw tr_16.lt).cell 2; go_simp; exact rfl), ?_⟩); go_simp; refine hK _ ?_; clear hK K)
    refine cls_callG rfl (fun K hK => ⟨_, _, _, (fun w' => by go_simp <;> first | exact rfl | exact ⟨rfl, rfl⟩), (fun w' hw => calls_below hw (HSi.out _)), ?_⟩); go_simp; refine hK _ ?_; clear hK K
    repeat (refine cls_stepG rfl (fun K hK => ⟨_, (fun w' hw => by have q0 := (tq_16.on hw tq_16.lt).cell 0; have q1 := (tq_16.on hw tq_16.lt).cell 1; have q2 := (tq_16.on hw tq_16.lt).cell 2; have q3 := (tr_16.on hw tr_16.lt).cell 0; have q4 := (tr_16.on hw tr_16.lt).cell 1; have q5 := (tr_16.on hw tr_16.lt).cell 2; go_simp; exact rfl), ?_⟩); go_simp; refine hK _ ?_; clear hK K)
    refine cls_callG rfl (fun K hK => ⟨_, _, _, (fun w' => by go_simp <;> first | exact rfl | exact ⟨rfl, rfl⟩), (fun w' hw => calls_below hw (HSs.out _)), ?_⟩); go_simp; refine hK _ ?_; clear hK K
    repeat (refine cls_stepG rfl (fun K hK => ⟨_, (fun w' hw => by have q0 := (ts_16.on hw ts_16.lt).cell 0; have q1 := (ts_16.on hw ts_16.lt).cell 1; have q2 := (ts_16.on hw ts_16.lt).cell 2; go_simp; exact rfl), ?_⟩); go_simp; refine hK _ ?_; clear hK K)
    refine cls_callG rfl (fun K hK => ⟨_, _, _, (fun w' => by go_simp <;> first | exact rfl | exact ⟨rfl, rfl⟩), (fun w' hw => calls_below hw (HKi.out _)), ?_⟩); go_simp; refine hK _ ?_; clear hK K
    repeat (refine cls_stepG rfl (fun K hK => ⟨_, (fun w' hw => by have q0 := (ts_16.on hw ts_16.lt).cell 0; have q1 := (ts_16.on hw ts_16.lt).cell 1; have q2 := (ts_16.on hw ts_16.lt).cell 2; go_simp; exact rfl), ?_⟩); go_simp; refine hK _ ?_; clear hK K)
    refine cls_callG rfl (fun K hK => ⟨_, _, _, (fun w' => by go_simp <;> first | exact rfl | exact ⟨rfl, rfl⟩), (fun w' hw => calls_below hw (HKs.out _)), ?_⟩); go_simp; refine hK _ ?_; clear hK K
    repeat (refine cls_stepG rfl (fun K hK => ⟨_, (fun w' hw => by go_simp; exact rfl), ?_⟩); go_simp; refine hK _ ?_; clear hK K)
    refine cls_callG rfl (fun K hK => ⟨_, _, _, (fun w' => by go_simp <;> first | exact rfl | exact ⟨rfl, rfl⟩), (fun w' hw => calls_below hw (HZi.out _ ((HL16.out.on hw).wide hw.size))), ?_⟩); go_simp; refine hK _ ?_; clear hK K
    repeat (refine cls_stepG rfl (fun K hK => ⟨_, (fun w' hw => by go_simp; exact rfl), ?_⟩); go_simp; refine hK _ ?_; clear hK K)
    refine cls_callG rfl (fun K hK => ⟨_, _, _, (fun w' => by go_simp <;> first | exact rfl | exact ⟨rfl, rfl⟩), (fun w' hw => calls_below hw (HZs.out _ ((HL16.out.on hw).wide hw.size))), ?_⟩); go_simp; refine hK _ ?_; clear hK K
    repeat (refine cls_stepG rfl (fun K hK => ⟨_, (fun w' hw => by go_simp; exact rfl), ?_⟩); go_simp; refine hK _ ?_; clear hK K)
    refine cls_callG rfl (fun K hK => ⟨_, _, _, (fun w' => by go_simp <;> first | exact rfl | exact ⟨rfl, rfl⟩), (fun w' hw => calls_below hw (HBa.out _)), ?_⟩); go_simp; refine hK _ ?_; clear hK K
    refine cls_callG rfl (fun K hK => ⟨_, _, _, (fun w' => by go_simp <;> first | exact rfl | exact ⟨rfl, rfl⟩), (fun w' hw => calls_below hw (HBg.out _)), ?_⟩); go_simp; refine hK _ ?_; clear hK K
    repeat (refine cls_stepG rfl (fun K hK => ⟨_, (fun w' hw => by have q0 := (tp_16.on hw tp_16.lt).cell 0; have q1 := (tp_16.on hw tp_16.lt).cell 1; have q2 := (tp_16.on hw tp_16.lt).cell 2; go_simp; exact rfl), ?_⟩); go_simp; refine hK _ ?_; clear hK K)
    refine cls_callG rfl (fun K hK => ⟨_, _, _, (fun w' => by go_simp <;> first | exact rfl | exact ⟨rfl, rfl⟩), (fun w' hw => calls_below hw (HOi.out _)), ?_⟩); go_simp; refine hK _ ?_; clear hK K
    repeat (refine cls_stepG rfl (fun K hK => ⟨_, (fun w' hw => by have q0 := (tp_16.on hw tp_16.lt).cell 0; have q1 := (tp_16.on hw tp_16.lt).cell 1; have q2 := (tp_16.on hw tp_16.lt).cell 2; go_simp; exact rfl), ?_⟩); go_simp; refine hK _ ?_; clear hK K)
    refine cls_callG rfl (fun K hK => ⟨_, _, _, (fun w' => by go_simp <;> first | exact rfl | exact ⟨rfl, rfl⟩), (fun w' hw => calls_below hw (HOs.out _)), ?_⟩); go_simp; refine hK _ ?_; clear hK K
    repeat (refine cls_stepG rfl (fun K hK => ⟨_, (fun w' hw => by go_simp; exact rfl), ?_⟩); go_simp; refine hK _ ?_; clear hK K)
    refine wq_nil ?_
    intro w' hw
    go_wp2
    go_ret
    exact ⟨rfl, below_then hB16 hw⟩
  · skip
    refine wp_region_class 74 (fun wz => Below w16_.heap.size w16_ wz) mixes (by kernel_rfl) (Below.refl _ _).drew ?_
    simp only [List.append, List.take_succ_cons, List.take_zero, List.drop_succ_cons, List.drop_zero]
    repeat (refine cls_stepG rfl (fun K hK => ⟨_, (fun w' hw => by have q0 := (tx_16.on hw tx_16.lt).cell 0; have q1 := (tx_16.on hw tx_16.lt).cell 1; have q2 := (tx_16.on hw tx_16.lt).cell 2; have q3 := (ta_16.on hw ta_16.lt).cell 0; have q4 := (ta_16.on hw ta_16.lt).cell 1; have q5 := (ta_16.on hw ta_16.lt).cell 2; go_simp; exact rfl), ?_⟩); go_simp; refine hK _ ?_; clear hK K)
    repeat (refine cls_stepG rfl (fun K hK => ⟨_, (fun w' hw => by have q0 := (ty_16.on hw ty_16.lt).cell 0; have q1 := (ty_16.on hw ty_16.lt).cell 1; have q2 := (ty_16.on hw ty_16.lt).cell 2; go_simp; exact rfl), ?_⟩); go_simp; refine hK _ ?_; clear hK K)
    refine cls_callG rfl (fun K hK => ⟨_, _, _, (fun w' => by go_simp <;> first | exact rfl | exact ⟨rfl, rfl⟩), (fun w' hw => calls_below hw (HTu.out (by trivial) _)), ?_⟩); go_simp; refine hK _ ?_; clear hK K
    repeat (refine cls_stepG rfl (fun K hK => ⟨_, (fun w' hw => by have q0 := (tb_16.on hw tb_16.lt).cell 0; have q1 := (tb_16.on hw tb_16.lt).cell 1; have q2 := (tb_16.on hw tb_16.lt).cell 2; go_simp; exact rfl), ?_⟩); go_simp; refine hK _ ?_; clear hK K)
    refine cls_callG rfl (fun K hK => ⟨_, _, _, (fun w' => by go_simp <;> first | exact rfl | exact ⟨rfl, rfl⟩), (fun w' hw => calls_below hw (HCl.out _)), ?_⟩); go_simp; refine hK _ ?_; clear hK K
    refine cls_callG rfl (fun K hK => ⟨_, _, _, (fun w' => by go_simp <;> first | exact rfl | exact ⟨rfl, rfl⟩), (fun w' hw => calls_below hw (HCg.out _)), ?_⟩); go_simp; refine hK _ ?_; clear hK K
    repeat (refine cls_stepG rfl (fun K hK => ⟨_, (fun w' hw => by have q0 := (tp_16.on hw tp_16.lt).cell 0; have q1 := (tp_16.on hw tp_16.lt).cell 1; have q2 := (tp_16.on hw tp_16.lt).cell 2; go_simp; exact rfl), ?_⟩); go_simp; refine hK _ ?_; clear hK K)
    refine cls_callG rfl (fun K hK => ⟨_, _, _, (fun w' => by go_simp <;> first | exact rfl | exact ⟨rfl, rfl⟩), (fun w' hw => calls_below hw (HGi.out _)), ?_⟩); go_simp; refine hK _ ?_; clear hK K
    repeat (refine cls_stepG rfl (fun K hK => ⟨_, (fun w' hw => by have q0 := (tp_16.on hw tp_16.lt).cell 0; have q1 := (tp_16.on hw tp_16.lt).cell 1; have q2 := (tp_16.on hw tp_16.lt).cell 2; go_simp; exact rfl), ?_⟩); go_simp; refine hK _ ?_; clear hK K)
    refine cls_callG rfl (fun K hK => ⟨_, _, _, (fun w' => by go_simp <;> first | exact rfl | exact ⟨rfl, rfl⟩), (fun w' hw => calls_below hw (HGs.out _)), ?_⟩); go_simp; refine hK _ ?_; clear hK K
    repeat (refine cls_stepG rfl (fun K hK => ⟨_, (fun w' hw => by have q0 := (tq_16.on hw tq_16.lt).cell 0; have q1 := (tq_16.on hw tq_16.lt).cell 1; have q2 := (tq_16.on hw tq_16.lt).cell 2; have q3 := (tr_16.on hw tr_16.lt).cell 0; have q4 := (tr_16.on hw tr_16.lt).cell 1; have q5 := (tr_16.on hw tr_16.lt).cell 2; go_simp; exact rfl), ?_⟩); go_simp; refine hK _ ?_; clear hK K)
    refine cls_callG rfl (fun K hK => ⟨_, _, _, (fun w' => by go_simp <;> first | exact rfl | exact ⟨rfl, rfl⟩), (fun w' hw => calls_below hw (HSi.out _)), ?_⟩); go_simp; refine hK _ ?_; clear hK K
    repeat (refine cls_stepG rfl (fun K hK => ⟨_, (fun w' hw => by have q0 := (tq_16.on hw tq_16.lt).cell 0; have q1 := (tq_16.on hw tq_16.lt).cell 1; have q2 := (tq_16.on hw tq_16.lt).cell 2; have q3 := (tr_16.on hw tr_16.lt).cell 0; have q4 := (tr_16.on hw tr_16.lt).cell 1; have q5 := (tr_16.on hw tr_16.lt).cell 2; go_simp; exact rfl), ?_⟩); go_simp; refine hK _ ?_; clear hK K)
    refine cls_callG rfl (fun K hK => ⟨_, _, _, (fun w' => by go_simp <;> first | exact rfl | exact ⟨rfl, rfl⟩), (fun w' hw => calls_below hw (HSs.out _)), ?_⟩); go_simp; refine hK _ ?_; clear hK K
    repeat (refine cls_stepG rfl (fun K hK => ⟨_, (fun w' hw => by have q0 := (ts_16.on hw ts_16.lt).cell 0; have q1 := (ts_16.on hw ts_16.lt).cell 1; have q2 := (ts_16.on hw ts_16.lt).cell 2; go_simp; exact rfl), ?_⟩); go_simp; refine hK _ ?_; clear hK K)
    refine cls_callG rfl (fun K hK => ⟨_, _, _, (fun w' => by go_simp <;> first | exact rfl | exact ⟨rfl, rfl⟩), (fun w' hw => calls_below hw (HKi.out _)), ?_⟩); go_simp; refine hK _ ?_; clear hK K
    repeat (refine cls_stepG rfl (fun K hK => ⟨_, (fun w' hw => by have q0 := (ts_16.on hw ts_16.lt).cell 0; have q1 := (ts_16.on hw ts_16.lt).cell 1; have q2 := (ts_16.on hw ts_16.lt).cell 2; go_simp; exact rfl), ?_⟩); go_simp; refine hK _ ?_; clear hK K)
    refine cls_callG rfl (fun K hK => ⟨_, _, _, (fun w' => by go_simp <;> first | exact rfl | exact ⟨rfl, rfl⟩), (fun w' hw => calls_below hw (HKs.out _)), ?_⟩); go_simp; refine hK _ ?_; clear hK K
    repeat (refine cls_stepG rfl (fun K hK => ⟨_, (fun w' hw => by go_simp; exact rfl), ?_⟩); go_simp; refine hK _ ?_; clear hK K)
    refine cls_callG rfl (fun K hK => ⟨_, _, _, (fun w' => by go_simp <;> first | exact rfl | exact ⟨rfl, rfl⟩), (fun w' hw => calls_below hw (HZi.out _ ((HL16.out.on hw).wide hw.size))), ?_⟩); go_simp; refine hK _ ?_; clear hK K
    repeat (refine cls_stepG rfl (fun K hK => ⟨_, (fun w' hw => by go_simp; exact rfl), ?_⟩); go_simp; refine hK _ ?_; clear hK K)
    refine cls_callG rfl (fun K hK => ⟨_, _, _, (fun w' => by go_simp <;> first | exact rfl | exact ⟨rfl, rfl⟩), (fun w' hw => calls_below hw (HZs.out _ ((HL16.out.on hw).wide hw.size))), ?_⟩); go_simp; refine hK _ ?_; clear hK K
    repeat (refine cls_stepG rfl (fun K hK => ⟨_, (fun w' hw => by go_simp; exact rfl), ?_⟩); go_simp; refine hK _ ?_; clear hK K)
    refine cls_callG rfl (fun K hK => ⟨_, _, _, (fun w' => by go_simp <;> first | exact rfl | exact ⟨rfl, rfl⟩), (fun w' hw => calls_below hw (HBa.out _)), ?_⟩); go_simp; refine hK _ ?_; clear hK K
    refine cls_callG rfl (fun K hK => ⟨_, _, _, (fun w' => by go_simp <;> first | exact rfl | exact ⟨rfl, rfl⟩), (fun w' hw => calls_below hw (HBg.out _)), ?_⟩); go_simp; refine hK _ ?_; clear hK K
    repeat (refine cls_stepG rfl (fun K hK => ⟨_, (fun w' hw => by have q0 := (tp_16.on hw tp_16.lt).cell 0; have q1 := (tp_16.on hw tp_16.lt).cell 1; have q2 := (tp_16.on hw tp_16.lt).cell 2; go_simp; exact rfl), ?_⟩); go_simp; refine hK _ ?_; clear hK K)
    refine cls_callG rfl (fun K hK => ⟨_, _, _, (fun w' => by go_simp <;> first | exact rfl | exact ⟨rfl, rfl⟩), (fun w' hw => calls_below hw (HOi.out _)), ?_⟩); go_simp; refine hK _ ?_; clear hK K
    repeat (refine cls_stepG rfl (fun K hK => ⟨_, (fun w' hw => by have q0 := (tp_16.on hw tp_16.lt).cell 0; have q1 := (tp_16.on hw tp_16.lt).cell 1; have q2 := (tp_16.on hw tp_16.lt).cell 2; go_simp; exact rfl), ?_⟩); go_simp; refine hK _ ?_; clear hK K)
    refine cls_callG rfl (fun K hK => ⟨_, _, _, (fun w' => by go_simp <;> first | exact rfl | exact ⟨rfl, rfl⟩), (fun w' hw => calls_below hw (HOs.out _)), ?_⟩); go_simp; refine hK _ ?_; clear hK K
    repeat (refine cls_stepG rfl (fun K hK => ⟨_, (fun w' hw => by go_simp; exact rfl), ?_⟩); go_simp; refine hK _ ?_; clear hK K)
    refine wq_nil ?_
    intro w' hw
    go_wp2
    go_ret
    exact ⟨rfl, below_then hB16 hw⟩

end Go.Proofs.Ytdeahlljllelaaa
