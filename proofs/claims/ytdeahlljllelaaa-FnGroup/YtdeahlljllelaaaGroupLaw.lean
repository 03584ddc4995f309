/-
  The walk of the law that points make a group.
-/
import Derived.Test.YtdeahlljllelaaaPtDraw2
import Derived.Test.YtdeahlljllelaaaPlaces
import Derived.Test.YtdeahlljllelaaaByteArg
import Derived.Test.YtdeahlljllelaaaPtI
namespace Go.Proofs.Ytdeahlljllelaaa
open Go.RowKit

set_option maxHeartbeats 6400000 in
set_option maxRecDepth 100000 in
theorem lawGroup (a : Option Addr) (len cap : Nat) (hm : len ≤ 9223372036854775807) (w : World) (hA : ArgAt w a len w.heap.size) :
    Calls Try.prog 3 #[.slice a len cap] w fun e w' => e = .returned (.bool true) ∧ Below w.heap.size w w' := by
  have HA : Hid (ArgAt w a len w.heap.size) := hA
  clear hA
  by_cases hb : 1048576 < len
  · have hd : decide (1048576 < len) = true := decide_eq_true hb
    go_enter Try.func3, Try.ntmps3
    go_wp2_with (go_at_call 9; refine (big_any _ _ _ hm _).mono ?_; rintro e w0 ⟨rfl, rfl⟩)
    go_ret
    exact ⟨rfl, Below.refl _ _⟩
  have hd : decide (1048576 < len) = false := decide_eq_false hb
  have hm1 : len ≤ 1048576 := by omega
  go_enter Try.func3, Try.ntmps3
  go_wp2_with (go_at_call 9; refine (big_any _ _ _ hm _).mono ?_; rintro e w0 ⟨rfl, rfl⟩)
  refine (drawCurve_any len cap a hm1 _ HA.out).mono ?_
  rintro e w1 ⟨P, Q, R, rfl, ⟨hPc, hQc, hRc⟩, hb1⟩
  have hP := hPc.1
  have hQ := hQc.1
  have hR := hRc.1
  clear hPc hQc hRc
  have HA0 : Hid (ArgAt w1 a len w1.heap.size) := HA.out.up hb1
  have sum : ∀ {A B C : Pt}, POk A → POk B → pAdd A B = C → ∀ w, Calls Try.prog 11 #[pv A, pv B] w fun e w' => e = .returned (pv C) ∧ Below w.heap.size w w' := fun {A B C} hA hB e w => by
    have h2 := iPAdd_any A B w
    rw [psum_eq hA hB, e] at h2
    exact h2
  obtain ⟨S, hS⟩ : ∃ S, S = pAdd P Q := ⟨_, rfl⟩
  obtain ⟨S2, hS2⟩ : ∃ S2, S2 = pAdd Q R := ⟨_, rfl⟩
  obtain ⟨X, hX⟩ : ∃ X, X = pAdd (pAdd P Q) R := ⟨_, rfl⟩
  have hSk : POk S := by rw [hS]; exact padd_ok hP hQ
  have hS2k : POk S2 := by rw [hS2]; exact padd_ok hQ hR
  have hXk : POk X := by rw [hX]; exact padd_ok (padd_ok hP hQ) hR
  have H1 : Hid (∀ w, Calls Try.prog 11 #[pv P, pv Q] w fun e w' => e = .returned (pv S) ∧ Below w.heap.size w w') := sum hP hQ hS.symm
  have H2 : Hid (∀ w, Calls Try.prog 11 #[pv S, pv R] w fun e w' => e = .returned (pv X) ∧ Below w.heap.size w w') := sum hSk hR (by rw [hX, hS])
  have H3 : Hid (∀ w, Calls Try.prog 11 #[pv Q, pv R] w fun e w' => e = .returned (pv S2) ∧ Below w.heap.size w w') := sum hQ hR hS2.symm
  have H4 : Hid (∀ w, Calls Try.prog 11 #[pv P, pv S2] w fun e w' => e = .returned (pv X) ∧ Below w.heap.size w w') := sum hP hS2k (by rw [hX, hS2, padd_assoc hP hQ hR])
  have H5 : Hid (∀ w, Calls Try.prog 11 #[pv Q, pv P] w fun e w' => e = .returned (pv S) ∧ Below w.heap.size w w') := sum hQ hP (by rw [hS, padd_comm hQ hP])
  have H6 : Hid (∀ w, Calls Try.prog 11 #[pv P, .agg #[.int .i64 0, .int .i64 0, .bool true]] w fun e w' => e = .returned (pv P) ∧ Below w.heap.size w w') := sum (B := pZ) hP pz_ok (padd_zero hP)
  obtain ⟨N, hN⟩ : ∃ N, N = pNeg P := ⟨_, rfl⟩
  have H7 : Hid (∀ w, Calls Try.prog 13 #[pv P] w fun e w' => e = .returned (pv N) ∧ Below w.heap.size w w') := by rw [hN]; exact iNeg_any P
  have H8 : Hid (∀ w, Calls Try.prog 11 #[pv P, pv N] w fun e w' => e = .returned (.agg #[.int .i64 0, .int .i64 0, .bool true]) ∧ Below w.heap.size w w') := sum (C := pZ) hP (by rw [hN]; exact pneg_ok hP) (by rw [hN, padd_neg hP])
  have HO : Hid (∀ w, Calls Try.prog 14 #[pv X] w fun e w' => e = .returned (.bool true) ∧ Below w.heap.size w w') := by
    have h := iPOk_any X
    rw [pokB.2 hXk] at h
    exact h
  have HTz : Hid (∀ w, Calls Try.prog 15 #[.int .i64 12108, pv P] w fun e w' => e = .returned (.agg #[.int .i64 0, .int .i64 0, .bool true]) ∧ Below w.heap.size w w') := by
    have h := iTimes_any 12108 P
    rw [show pTimes 12108 P = pZ from ptimes_nat hP 12108] at h
    exact h
  have HT : Hid (∀ m n : Nat, m < 300 → n < 300 → ∃ AM AN AS : Pt, (∀ w, Calls Try.prog 15 #[.int .i64 (m : Int), pv P] w fun e w' => e = .returned (pv AM) ∧ Below w.heap.size w w') ∧ (∀ w, Calls Try.prog 15 #[.int .i64 (n : Int), pv P] w fun e w' => e = .returned (pv AN) ∧ Below w.heap.size w w') ∧ (∀ w, Calls Try.prog 11 #[pv AM, pv AN] w fun e w' => e = .returned (pv AS) ∧ Below w.heap.size w w') ∧ (∀ w, Calls Try.prog 15 #[.int .i64 ((m + n : Nat) : Int), pv P] w fun e w' => e = .returned (pv AS) ∧ Below w.heap.size w w')) := fun m n h1 h2 => by
    refine ⟨pMul P m, pMul P n, pMul P (m + n), ?_, ?_, sum (pmul_ok hP m) (pmul_ok hP n) (pmul_add hP m n).symm, ?_⟩
    · have h := iTimes_any (m : Int) P
      rw [ptimes_small hP (by omega)] at h
      exact h
    · have h := iTimes_any (n : Int) P
      rw [ptimes_small hP (by omega)] at h
      exact h
    · have h := iTimes_any ((m + n : Nat) : Int) P
      rw [ptimes_small hP (by omega)] at h
      exact h
  clear hb hd HA hP hQ hR sum hS hS2 hX hSk hS2k hXk hN
  obtain ⟨W1, hE1, hbW1, ta_1, tb_1, tc_1⟩ := boxes3 w1 25 25 25 #[.int .i64 P.1, .int .i64 P.2.1, .bool P.2.2] #[.int .i64 Q.1, .int .i64 Q.2.1, .bool Q.2.2] #[.int .i64 R.1, .int .i64 R.2.1, .bool R.2.2]
  go_wp2
  have hB1 := below_then hb1 hbW1
  have HA1 : Hid (ArgAt W1 a len W1.heap.size) := HA0.out.up hbW1
  clear hb1 hbW1 hE1 HA0
  refine wp_region_made 5 mixes (by kernel_rfl) rfl rfl (fun a w => by go_simp <;> rfl) ?_
  simp only [List.take_succ_cons, List.take_zero, List.drop_succ_cons, List.drop_zero]
  repeat (refine bel_step rfl (fun K hK => ⟨_, (fun w' hw => by have q0 := (ta_1.on hw ta_1.lt).cell 0; have q1 := (ta_1.on hw ta_1.lt).cell 1; have q2 := (ta_1.on hw ta_1.lt).cell 2; have q3 := (tb_1.on hw tb_1.lt).cell 0; have q4 := (tb_1.on hw tb_1.lt).cell 1; have q5 := (tb_1.on hw tb_1.lt).cell 2; have q6 := (tc_1.on hw tc_1.lt).cell 0; have q7 := (tc_1.on hw tc_1.lt).cell 1; have q8 := (tc_1.on hw tc_1.lt).cell 2; go_simp; exact rfl), ?_⟩); go_simp; refine hK _ ?_; clear hK K)
  refine bel_call rfl (fun K hK => ⟨_, _, _, (fun w' => by go_simp <;> first | exact rfl | exact ⟨rfl, rfl⟩), (fun w' hw => H1.out _), ?_⟩); go_simp; refine hK _ ?_; clear hK K
  repeat (refine bel_step rfl (fun K hK => ⟨_, (fun w' hw => by have q0 := (ta_1.on hw ta_1.lt).cell 0; have q1 := (ta_1.on hw ta_1.lt).cell 1; have q2 := (ta_1.on hw ta_1.lt).cell 2; have q3 := (tb_1.on hw tb_1.lt).cell 0; have q4 := (tb_1.on hw tb_1.lt).cell 1; have q5 := (tb_1.on hw tb_1.lt).cell 2; have q6 := (tc_1.on hw tc_1.lt).cell 0; have q7 := (tc_1.on hw tc_1.lt).cell 1; have q8 := (tc_1.on hw tc_1.lt).cell 2; go_simp; exact rfl), ?_⟩); go_simp; refine hK _ ?_; clear hK K)
  refine bel_call rfl (fun K hK => ⟨_, _, _, (fun w' => by go_simp <;> first | exact rfl | exact ⟨rfl, rfl⟩), (fun w' hw => H2.out _), ?_⟩); go_simp; refine hK _ ?_; clear hK K
  refine bel_nil ?_
  intro gn w' hw hgn hnew
  refine frame_out fun K hK => ?_
  go_simp
  refine hK _ ?_
  clear hK K
  refine store_blk (cs' := #[.int .i64 X.1, .int .i64 X.2.1, .bool X.2.2]) rfl rfl rfl rfl rfl hnew infoP rfl (ones3 _ _ _) ?_
  intro V2 tx_2 hoth hbel
  have ta_2 := hoth _ _ _ (by have := ta_1.lt; omega) (ta_1.on hw ta_1.lt)
  have tb_2 := hoth _ _ _ (by have := tb_1.lt; omega) (tb_1.on hw tb_1.lt)
  have tc_2 := hoth _ _ _ (by have := tc_1.lt; omega) (tc_1.on hw tc_1.lt)
  have hB2 := hbel _ _ (by have := hB1.size; omega) (below_then hB1 hw)
  have HA2 : Hid (ArgAt V2 a len V2.heap.size) := HA1.out.up (hbel _ _ hgn hw)
  clear hoth hbel hnew hgn hw ta_1 tb_1 tc_1 hB1 HA1
  go_wp2
  refine wp_region_made 5 mixes (by kernel_rfl) rfl rfl (fun a w => by go_simp <;> rfl) ?_
  simp only [List.take_succ_cons, List.take_zero, List.drop_succ_cons, List.drop_zero]
  repeat (refine bel_step rfl (fun K hK => ⟨_, (fun w' hw => by have q0 := (ta_2.on hw ta_2.lt).cell 0; have q1 := (ta_2.on hw ta_2.lt).cell 1; have q2 := (ta_2.on hw ta_2.lt).cell 2; have q3 := (tb_2.on hw tb_2.lt).cell 0; have q4 := (tb_2.on hw tb_2.lt).cell 1; have q5 := (tb_2.on hw tb_2.lt).cell 2; have q6 := (tc_2.on hw tc_2.lt).cell 0; have q7 := (tc_2.on hw tc_2.lt).cell 1; have q8 := (tc_2.on hw tc_2.lt).cell 2; go_simp; exact rfl), ?_⟩); go_simp; refine hK _ ?_; clear hK K)
  refine bel_call rfl (fun K hK => ⟨_, _, _, (fun w' => by go_simp <;> first | exact rfl | exact ⟨rfl, rfl⟩), (fun w' hw => H3.out _), ?_⟩); go_simp; refine hK _ ?_; clear hK K
  refine bel_call rfl (fun K hK => ⟨_, _, _, (fun w' => by go_simp <;> first | exact rfl | exact ⟨rfl, rfl⟩), (fun w' hw => H4.out _), ?_⟩); go_simp; refine hK _ ?_; clear hK K
  refine bel_nil ?_
  intro gn w' hw hgn hnew
  refine frame_out fun K hK => ?_
  go_simp
  refine hK _ ?_
  clear hK K
  refine store_blk (cs' := #[.int .i64 X.1, .int .i64 X.2.1, .bool X.2.2]) rfl rfl rfl rfl rfl hnew infoP rfl (ones3 _ _ _) ?_
  intro V3 ty_3 hoth hbel
  have ta_3 := hoth _ _ _ (by have := ta_2.lt; omega) (ta_2.on hw ta_2.lt)
  have tb_3 := hoth _ _ _ (by have := tb_2.lt; omega) (tb_2.on hw tb_2.lt)
  have tc_3 := hoth _ _ _ (by have := tc_2.lt; omega) (tc_2.on hw tc_2.lt)
  have tx_3 := hoth _ _ _ (by have := tx_2.lt; omega) (tx_2.on hw tx_2.lt)
  have hB3 := hbel _ _ (by have := hB2.size; omega) (below_then hB2 hw)
  have HA3 : Hid (ArgAt V3 a len V3.heap.size) := HA2.out.up (hbel _ _ hgn hw)
  clear hoth hbel hnew hgn hw ta_2 tb_2 tc_2 tx_2 hB2 HA2
  obtain ⟨W4, hE4, hbW4, tz_4⟩ := box1 V3 25 #[.int .i64 0, .int .i64 0, .bool true]
  go_wp2_with fail
  have ta_4 := ta_3.on hbW4 ta_3.lt
  have tb_4 := tb_3.on hbW4 tb_3.lt
  have tc_4 := tc_3.on hbW4 tc_3.lt
  have tx_4 := tx_3.on hbW4 tx_3.lt
  have ty_4 := ty_3.on hbW4 ty_3.lt
  have hB4 := below_then hB3 hbW4
  have HA4 : Hid (ArgAt W4 a len W4.heap.size) := HA3.out.up hbW4
  clear ta_3 tb_3 tc_3 tx_3 ty_3 hB3 hbW4 hE4 HA3
  refine (places_any len cap a hm1 _ HA4.out).mono ?_
  rintro e w5_ ⟨gp, cpp, xs, rfl, hgp, _, hxs, hb5⟩
  have ta_5 := ta_4.on hb5 ta_4.lt
  have tb_5 := tb_4.on hb5 tb_4.lt
  have tc_5 := tc_4.on hb5 tc_4.lt
  have tx_5 := tx_4.on hb5 tx_4.lt
  have ty_5 := ty_4.on hb5 ty_4.lt
  have tz_5 := tz_4.on hb5 tz_4.lt
  have hB5 := below_then hB4 hb5
  clear ta_4 tb_4 tc_4 tx_4 ty_4 tz_4 hB4 HA4 hb5
  obtain ⟨x0, hx0⟩ : ∃ x0, x0 = xs 0 := ⟨_, rfl⟩
  obtain ⟨x1, hx1⟩ : ∃ x1, x1 = xs 1 := ⟨_, rfl⟩
  have c0 := hxs 0 (by omega)
  have c1 := hxs 1 (by omega)
  rw [← hx0] at c0
  rw [← hx1] at c1
  obtain ⟨b0, c0⟩ := c0
  obtain ⟨b1, c1⟩ := c1
  obtain ⟨m, hmm⟩ : ∃ m : Nat, m = x0 % 300 := ⟨_, rfl⟩
  obtain ⟨n, hnn⟩ : ∃ n : Nat, n = x1 % 300 := ⟨_, rfl⟩
  have hm3 : m < 300 := by omega
  have hn3 : n < 300 := by omega
  have hmt : Int.tmod (x0 : Int) 300 = (m : Int) := by rw [Int.tmod_eq_emod_of_nonneg (by omega)]; omega
  have hnt : Int.tmod (x1 : Int) 300 = (n : Int) := by rw [Int.tmod_eq_emod_of_nonneg (by omega)]; omega
  have hws : IntKind.i64.wrap ((m : Int) + (n : Int)) = ((m + n : Nat) : Int) := by rw [IntWalk.i64_in _ (by omega)]; omega
  clear hmm hnn hx0 hx1 hxs
  have H9 := HT.out m n hm3 hn3
  obtain ⟨AM, AN, AS, HTm, HTn, HAS, HTs⟩ := H9
  have HTM : Hid _ := HTm
  have HTN : Hid _ := HTn
  have HASM : Hid _ := HAS
  have HTS : Hid _ := HTs
  clear HTm HTn HAS HTs HT
  go_wp2
  clear c0 c1 hmt hnt
  refine wp_region_class 52 (fun wz => Below w5_.heap.size w5_ wz) mixes (by kernel_rfl) (Below.refl _ _).drew ?_
  simp only [List.take_succ_cons, List.take_zero, List.drop_succ_cons, List.drop_zero]
  repeat (refine cls_stepG rfl (fun K hK => ⟨_, (fun w' hw => by have q0 := (tx_5.on hw tx_5.lt).cell 0; have q1 := (tx_5.on hw tx_5.lt).cell 1; have q2 := (tx_5.on hw tx_5.lt).cell 2; have q3 := (ty_5.on hw ty_5.lt).cell 0; have q4 := (ty_5.on hw ty_5.lt).cell 1; have q5 := (ty_5.on hw ty_5.lt).cell 2; go_simp; exact rfl), ?_⟩); go_simp; refine hK _ ?_; clear hK K)
  repeat (refine cls_stepG rfl (fun K hK => ⟨_, (fun w' hw => by have q0 := (ta_5.on hw ta_5.lt).cell 0; have q1 := (ta_5.on hw ta_5.lt).cell 1; have q2 := (ta_5.on hw ta_5.lt).cell 2; have q3 := (tb_5.on hw tb_5.lt).cell 0; have q4 := (tb_5.on hw tb_5.lt).cell 1; have q5 := (tb_5.on hw tb_5.lt).cell 2; go_simp; exact rfl), ?_⟩); go_simp; refine hK _ ?_; clear hK K)
  refine cls_callG rfl (fun K hK => ⟨_, _, _, (fun w' => by go_simp <;> first | exact rfl | exact ⟨rfl, rfl⟩), (fun w' hw => calls_below hw (H1.out _)), ?_⟩); go_simp; refine hK _ ?_; clear hK K
  repeat (refine cls_stepG rfl (fun K hK => ⟨_, (fun w' hw => by have q0 := (ta_5.on hw ta_5.lt).cell 0; have q1 := (ta_5.on hw ta_5.lt).cell 1; have q2 := (ta_5.on hw ta_5.lt).cell 2; have q3 := (tb_5.on hw tb_5.lt).cell 0; have q4 := (tb_5.on hw tb_5.lt).cell 1; have q5 := (tb_5.on hw tb_5.lt).cell 2; go_simp; exact rfl), ?_⟩); go_simp; refine hK _ ?_; clear hK K)
  refine cls_callG rfl (fun K hK => ⟨_, _, _, (fun w' => by go_simp <;> first | exact rfl | exact ⟨rfl, rfl⟩), (fun w' hw => calls_below hw (H5.out _)), ?_⟩); go_simp; refine hK _ ?_; clear hK K
  repeat (refine cls_stepG rfl (fun K hK => ⟨_, (fun w' hw => by have q0 := (ta_5.on hw ta_5.lt).cell 0; have q1 := (ta_5.on hw ta_5.lt).cell 1; have q2 := (ta_5.on hw ta_5.lt).cell 2; have q3 := (tz_5.on hw tz_5.lt).cell 0; have q4 := (tz_5.on hw tz_5.lt).cell 1; have q5 := (tz_5.on hw tz_5.lt).cell 2; go_simp; exact rfl), ?_⟩); go_simp; refine hK _ ?_; clear hK K)
  refine cls_callG rfl (fun K hK => ⟨_, _, _, (fun w' => by go_simp <;> first | exact rfl | exact ⟨rfl, rfl⟩), (fun w' hw => calls_below hw (H6.out _)), ?_⟩); go_simp; refine hK _ ?_; clear hK K
  repeat (refine cls_stepG rfl (fun K hK => ⟨_, (fun w' hw => by have q0 := (ta_5.on hw ta_5.lt).cell 0; have q1 := (ta_5.on hw ta_5.lt).cell 1; have q2 := (ta_5.on hw ta_5.lt).cell 2; go_simp; exact rfl), ?_⟩); go_simp; refine hK _ ?_; clear hK K)
  refine cls_callG rfl (fun K hK => ⟨_, _, _, (fun w' => by go_simp <;> first | exact rfl | exact ⟨rfl, rfl⟩), (fun w' hw => calls_below hw (H7.out _)), ?_⟩); go_simp; refine hK _ ?_; clear hK K
  refine cls_callG rfl (fun K hK => ⟨_, _, _, (fun w' => by go_simp <;> first | exact rfl | exact ⟨rfl, rfl⟩), (fun w' hw => calls_below hw (H8.out _)), ?_⟩); go_simp; refine hK _ ?_; clear hK K
  repeat (refine cls_stepG rfl (fun K hK => ⟨_, (fun w' hw => by have q0 := (tz_5.on hw tz_5.lt).cell 0; have q1 := (tz_5.on hw tz_5.lt).cell 1; have q2 := (tz_5.on hw tz_5.lt).cell 2; have q3 := (tx_5.on hw tx_5.lt).cell 0; have q4 := (tx_5.on hw tx_5.lt).cell 1; have q5 := (tx_5.on hw tx_5.lt).cell 2; go_simp; exact rfl), ?_⟩); go_simp; refine hK _ ?_; clear hK K)
  refine cls_callG rfl (fun K hK => ⟨_, _, _, (fun w' => by go_simp <;> first | exact rfl | exact ⟨rfl, rfl⟩), (fun w' hw => calls_below hw (HO.out _)), ?_⟩); go_simp; refine hK _ ?_; clear hK K
  repeat (refine cls_stepG rfl (fun K hK => ⟨_, (fun w' hw => by have q0 := (ta_5.on hw ta_5.lt).cell 0; have q1 := (ta_5.on hw ta_5.lt).cell 1; have q2 := (ta_5.on hw ta_5.lt).cell 2; go_simp; exact rfl), ?_⟩); go_simp; refine hK _ ?_; clear hK K)
  refine cls_callG rfl (fun K hK => ⟨_, _, _, (fun w' => by go_simp <;> first | exact rfl | exact ⟨rfl, rfl⟩), (fun w' hw => calls_below hw (HTM.out _)), ?_⟩); go_simp; refine hK _ ?_; clear hK K
  repeat (refine cls_stepG rfl (fun K hK => ⟨_, (fun w' hw => by have q0 := (ta_5.on hw ta_5.lt).cell 0; have q1 := (ta_5.on hw ta_5.lt).cell 1; have q2 := (ta_5.on hw ta_5.lt).cell 2; go_simp; exact rfl), ?_⟩); go_simp; refine hK _ ?_; clear hK K)
  refine cls_callG rfl (fun K hK => ⟨_, _, _, (fun w' => by go_simp <;> first | exact rfl | exact ⟨rfl, rfl⟩), (fun w' hw => calls_below hw (HTN.out _)), ?_⟩); go_simp; refine hK _ ?_; clear hK K
  refine cls_callG rfl (fun K hK => ⟨_, _, _, (fun w' => by go_simp <;> first | exact rfl | exact ⟨rfl, rfl⟩), (fun w' hw => calls_below hw (HASM.out _)), ?_⟩); go_simp; refine hK _ ?_; clear hK K
  repeat (refine cls_stepG rfl (fun K hK => ⟨_, (fun w' hw => by have q0 := (ta_5.on hw ta_5.lt).cell 0; have q1 := (ta_5.on hw ta_5.lt).cell 1; have q2 := (ta_5.on hw ta_5.lt).cell 2; go_simp; exact rfl), ?_⟩); go_simp; refine hK _ ?_; clear hK K)
  refine cls_callG rfl (fun K hK => ⟨_, _, _, (fun w' => by go_simp <;> first | exact rfl | exact ⟨rfl, rfl⟩), (fun w' hw => calls_below hw (HTS.out _)), ?_⟩); go_simp; refine hK _ ?_; clear hK K
  repeat (refine cls_stepG rfl (fun K hK => ⟨_, (fun w' hw => by have q0 := (ta_5.on hw ta_5.lt).cell 0; have q1 := (ta_5.on hw ta_5.lt).cell 1; have q2 := (ta_5.on hw ta_5.lt).cell 2; go_simp; exact rfl), ?_⟩); go_simp; refine hK _ ?_; clear hK K)
  refine cls_callG rfl (fun K hK => ⟨_, _, _, (fun w' => by go_simp <;> first | exact rfl | exact ⟨rfl, rfl⟩), (fun w' hw => calls_below hw (HTz.out _)), ?_⟩); go_simp; refine hK _ ?_; clear hK K
  repeat (refine cls_stepG rfl (fun K hK => ⟨_, (fun w' hw => by have q0 := (tz_5.on hw tz_5.lt).cell 0; have q1 := (tz_5.on hw tz_5.lt).cell 1; have q2 := (tz_5.on hw tz_5.lt).cell 2; go_simp; exact rfl), ?_⟩); go_simp; refine hK _ ?_; clear hK K)
  refine wq_nil ?_
  intro w' hw
  go_wp2
  go_ret
  exact ⟨rfl, below_then hB5 hw⟩

end Go.Proofs.Ytdeahlljllelaaa
