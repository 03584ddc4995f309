/-
  The walk of the law that what two points have so often their pair has as often as both together.
-/
import Derived.Test.YtckhbflolccinaaJoined23
import Derived.Test.YtckhbflolccinaaJoined2
import Derived.Test.YtckhbflolccinaaJoined23
import Derived.Test.YtckhbflolccinaaPairI
namespace Go.Proofs.Ytckhbflolccinaa
open Go.RowKit

/-- What is asked of pairs of multiples of the base. -/
theorem pairings_facts (i j k : Nat) (hi : i < 1009) (hj : j < 1009) (hk : k < 1009) :
    pairS (pAdd (pMul pB i) (pMul pB k)) (pMul pB j) = tm (pairS (pMul pB i) (pMul pB j)) (pairS (pMul pB k) (pMul pB j)) ∧ pw (pairS (pMul pB i) (pMul pB j)) 1009 = (1, 0) ∧
    pairS (pMul pB j) (pMul pB i) = pairS (pMul pB i) (pMul pB j) ∧
    ∀ m n : Nat, pairS (pMul (pMul pB i) m) (pMul (pMul pB j) n) = pw (pairS (pMul pB i) (pMul pB j)) (m * n % 1009) := by
  have hr : ∀ a : Nat, pMul pB a = pMul pB (a % 1009) := fun a => pmul_rest pb_ok b1009 a
  have hpow : ∀ a b : Nat, a % 1009 = b % 1009 → pw gB a = pw gB b := fun a b h => by rw [pw_rest a, pw_rest b, h]
  refine ⟨?_, ?_, ?_, ?_⟩
  · rw [← pmul_add pb_ok, hr (i + k), pair_gp _ j (Nat.mod_lt _ (by decide)) hj, pair_gp i j hi hj, pair_gp k j hk hj, ← pw_add]
    apply hpow
    rw [← Nat.add_mul, Nat.mul_mod, Nat.mod_mod, ← Nat.mul_mod]
  · rw [pair_gp i j hi hj, pw_pw, hpow (i * j * 1009) 0 (by omega), pw_zero]
  · rw [pair_gp i j hi hj, pair_gp j i hj hi, Nat.mul_comm]
  · intro m n
    rw [pmul_mul pb_ok, pmul_mul pb_ok, hr (i * m), hr (j * n), pair_gp _ _ (Nat.mod_lt _ (by decide)) (Nat.mod_lt _ (by decide)), pair_gp i j hi hj, pw_pw]
    apply hpow
    rw [Nat.mul_mod, Nat.mod_mod, Nat.mod_mod, ← Nat.mul_mod, Nat.mul_mod (i * j) (m * n % 1009), Nat.mod_mod, ← Nat.mul_mod]
    congr 1
    rw [Nat.mul_mul_mul_comm]

set_option maxHeartbeats 6400000 in
set_option maxRecDepth 100000 in
theorem lawPairings (a : Option Addr) (len cap : Nat) (hm : len ≤ 9223372036854775807) (w : World) (hA : ArgAt w a len w.heap.size) :
    Calls Try.prog 3 #[.slice a len cap] w fun e w' => e = .returned (.bool true) ∧ Below w.heap.size w w' := by
  have HA : Hid (ArgAt w a len w.heap.size) := hA
  clear hA
  by_cases hb : 1048576 < len
  · have hd : decide (1048576 < len) = true := decide_eq_true hb
    go_enter Try.func3, Try.ntmps3
    go_wp2_with (go_at_call 9; refine (big_any _ _ _ hm _).mono ?_; rintro e w0 ⟨rfl, rfl⟩)
    go_ret
    exact ⟨rfl, Below.refl _ _⟩
  have hd : decide (1048576 < len) = false := decide_eq_false hb
  have hm1 : len ≤ 1048576 := by omega
  go_enter Try.func3, Try.ntmps3
  go_wp2_with (go_at_call 9; refine (big_any _ _ _ hm _).mono ?_; rintro e w0 ⟨rfl, rfl⟩)
  refine (drawGroup_any len cap a hm1 _ HA.out).mono ?_
  rintro e w1 ⟨P, Q, R, rfl, ⟨hPc, hQc, hRc⟩, hb1⟩
  have HA0 : Hid (ArgAt w1 a len w1.heap.size) := HA.out.up hb1
  have oP := hPc.ok
  have oQ := hQc.ok
  have oR := hRc.ok
  obtain ⟨i, hi, hPi⟩ := hPc
  obtain ⟨j, hj, hQj⟩ := hQc
  obtain ⟨k, hk, hRk⟩ := hRc
  have F := pairings_facts i j k hi hj hk
  rw [← hPi, ← hQj, ← hRk] at F
  obtain ⟨F1, F2, F3, F4⟩ := F
  have HE : Hid (∀ w, Calls Try.prog 12 #[pv P, pv Q] w fun e w' => e = .returned (tv (pairS P Q)) ∧ Below w.heap.size w w') := iPairing_any P Q
  have HSp : Hid (∀ w, Calls Try.prog 17 #[pv P, pv Q] w fun e w' => e = .returned (tv (pairS P Q)) ∧ Below w.heap.size w w') := sPairing_any P Q
  have HSy : Hid (∀ w, Calls Try.prog 12 #[pv Q, pv P] w fun e w' => e = .returned (tv (pairS P Q)) ∧ Below w.heap.size w w') := by rw [← F3]; exact iPairing_any Q P
  have HC : Hid (∀ w, Calls Try.prog 12 #[pv R, pv Q] w fun e w' => e = .returned (tv (pairS R Q)) ∧ Below w.heap.size w w') := iPairing_any R Q
  have HS : Hid (∀ w, Calls Try.prog 14 #[pv P, pv R] w fun e w' => e = .returned (pv (pAdd P R)) ∧ Below w.heap.size w w') := by have h := iPAdd_any P R; rw [psum_eq oP oR] at h; exact h
  have HY : Hid (∀ w, Calls Try.prog 12 #[pv (pAdd P R), pv Q] w fun e w' => e = .returned (tv (tm (pairS P Q) (pairS R Q))) ∧ Below w.heap.size w w') := by rw [← F1]; exact iPairing_any _ Q
  have HMu : Hid (∀ w, Calls Try.prog 16 #[tv (pairS P Q), tv (pairS R Q)] w fun e w' => e = .returned (tv (tm (pairS P Q) (pairS R Q))) ∧ Below w.heap.size w w') := iMul2_any _ _
  have HOr : Hid (∀ w, Calls Try.prog 15 #[tv (pairS P Q), .int .i64 1009] w fun e w' => e = .returned (.agg #[.int .i64 1, .int .i64 0]) ∧ Below w.heap.size w w') := by
    have h := iPow2_any (pairS P Q) 1009 (by decide)
    rw [show tp (pairS P Q) 1009 = (1, 0) from (tp_pw _ 1009).trans F2] at h
    exact h
  have HT : Hid (∀ m n : Nat, m < 1009 → n < 1009 → ∃ (PM QN : Pt) (X : Int × Int), (∀ w, Calls Try.prog 13 #[.int .i64 (m : Int), pv P] w fun e w' => e = .returned (pv PM) ∧ Below w.heap.size w w') ∧ (∀ w, Calls Try.prog 13 #[.int .i64 (n : Int), pv Q] w fun e w' => e = .returned (pv QN) ∧ Below w.heap.size w w') ∧ (∀ w, Calls Try.prog 12 #[pv PM, pv QN] w fun e w' => e = .returned (tv X) ∧ Below w.heap.size w w') ∧ (∀ w, Calls Try.prog 15 #[tv (pairS P Q), .int .i64 ((m * n % 1009 : Nat) : Int)] w fun e w' => e = .returned (tv X) ∧ Below w.heap.size w w')) := fun m n h1 h2 => by
    refine ⟨pMul P m, pMul Q n, pw (pairS P Q) (m * n % 1009), ?_, ?_, ?_, ?_⟩
    · have h := iTimes_any (m : Int) P
      rw [ptimes_small oP (by omega)] at h
      exact h
    · have h := iTimes_any (n : Int) Q
      rw [ptimes_small oQ (by omega)] at h
      exact h
    · rw [← F4 m n]; exact iPairing_any _ _
    · have hl : m * n % 1009 < 1009 := Nat.mod_lt _ (by decide)
      have h := iPow2_any (pairS P Q) ((m * n % 1009 : Nat) : Int) (by omega)
      rw [tp_pw] at h
      exact h
  generalize tm (pairS P Q) (pairS R Q) = Y at HY HMu
  generalize pairS P Q = E at HE HSp HSy HMu HOr HT
  generalize pairS R Q = CC at HC HMu
  generalize pAdd P R = S at HS HY
  clear hb hd HA oP oQ oR F1 F2 F3 F4 hPi hQj hRk hi hj hk
  obtain ⟨W1, hE1, hbW1, ta_1, tb_1, tc_1⟩ := boxes3 w1 25 25 25 #[.int .i64 P.1, .int .i64 P.2.1, .bool P.2.2] #[.int .i64 Q.1, .int .i64 Q.2.1, .bool Q.2.2] #[.int .i64 R.1, .int .i64 R.2.1, .bool R.2.2]
  go_wp2_with fail
  have hB1 := below_then hb1 hbW1
  have HA1 : Hid (ArgAt W1 a len W1.heap.size) := HA0.out.up hbW1
  clear hb1 hbW1 hE1 HA0
  refine (places_any len cap a hm1 _ HA1.out).mono ?_
  rintro e w2_ ⟨gp, cpp, xs, rfl, hgp, _, hxs, hb2⟩
  have ta_2 := ta_1.on hb2 ta_1.lt
  have tb_2 := tb_1.on hb2 tb_1.lt
  have tc_2 := tc_1.on hb2 tc_1.lt
  have hB2 := below_then hB1 hb2
  clear ta_1 tb_1 tc_1 hB1 HA1 hb2
  obtain ⟨x0, hx0⟩ : ∃ x0, x0 = xs 0 := ⟨_, rfl⟩
  obtain ⟨x1, hx1⟩ : ∃ x1, x1 = xs 1 := ⟨_, rfl⟩
  have c0 := hxs 0 (by omega)
  have c1 := hxs 1 (by omega)
  rw [← hx0] at c0
  rw [← hx1] at c1
  obtain ⟨b0, c0⟩ := c0
  obtain ⟨b1, c1⟩ := c1
  obtain ⟨m, hmm⟩ : ∃ m : Nat, m = x0 % 1009 := ⟨_, rfl⟩
  obtain ⟨n, hnn⟩ : ∃ n : Nat, n = x1 % 1009 := ⟨_, rfl⟩
  have hm3 : m < 1009 := by omega
  have hn3 : n < 1009 := by omega
  have hmt : Int.tmod (x0 : Int) 1009 = (m : Int) := by rw [Int.tmod_eq_emod_of_nonneg (by omega)]; omega
  have hnt : Int.tmod (x1 : Int) 1009 = (n : Int) := by rw [Int.tmod_eq_emod_of_nonneg (by omega)]; omega
  have hmn : m * n ≤ 1016064 := Nat.mul_le_mul (show m ≤ 1008 by omega) (show n ≤ 1008 by omega)
  obtain ⟨mn, hmn2⟩ : ∃ mn : Nat, mn = m * n := ⟨_, rfl⟩
  have hmi : (m : Int) * (n : Int) = (mn : Int) := by rw [hmn2]; exact (Int.natCast_mul m n).symm
  have hwr : IntKind.i64.wrap (mn : Int) = (mn : Int) := IntWalk.i64_in _ (by omega)
  obtain ⟨rr, hrr⟩ : ∃ rr : Nat, rr = mn % 1009 := ⟨_, rfl⟩
  have hrt : Int.tmod (mn : Int) 1009 = (rr : Int) := by rw [Int.tmod_eq_emod_of_nonneg (by omega)]; omega
  obtain ⟨PM, QN, X, HTm, HTn, HXX, HPX⟩ := HT.out m n hm3 hn3
  rw [← hmn2, ← hrr] at HPX
  have HTM : Hid _ := HTm
  have HTN : Hid _ := HTn
  have HPR : Hid _ := HXX
  have HPW : Hid _ := HPX
  clear hmm hnn hx0 hx1 hxs HTm HTn HXX HPX HT hmn hmn2 hrr
  go_wp2_with (first | (refine load_blk rfl rfl rfl ta_2 Try.underlying25 infoP ?_) | (refine load_blk rfl rfl rfl tb_2 Try.underlying25 infoP ?_))
  clear c0 c1 hmt hnt
  refine (HE.out _).mono ?_
  rintro e w3_ ⟨rfl, hb3⟩
  have ta_3 := ta_2.on hb3 ta_2.lt
  have tb_3 := tb_2.on hb3 tb_2.lt
  have tc_3 := tc_2.on hb3 tc_2.lt
  have hB3 := below_then hB2 hb3
  clear ta_2 tb_2 tc_2 hB2 hb3
  obtain ⟨W4, hE4, hbW4, te_4⟩ := box1 w3_ 31 #[.int .i64 E.1, .int .i64 E.2]
  go_wp2
  have ta_4 := ta_3.on hbW4 ta_3.lt
  have tb_4 := tb_3.on hbW4 tb_3.lt
  have tc_4 := tc_3.on hbW4 tc_3.lt
  have hB4 := below_then hB3 hbW4
  clear ta_3 tb_3 tc_3 hB3 hbW4 hE4
  refine wp_region_made 7 mixes (by kernel_rfl) rfl rfl (fun a w => by go_simp <;> rfl) ?_
  simp only [List.take_succ_cons, List.take_zero, List.drop_succ_cons, List.drop_zero]
  repeat (refine bel_step rfl (fun K hK => ⟨_, (fun w' hw => by have q0 := (ta_4.on hw ta_4.lt).cell 0; have q1 := (ta_4.on hw ta_4.lt).cell 1; have q2 := (ta_4.on hw ta_4.lt).cell 2; have q3 := (tb_4.on hw tb_4.lt).cell 0; have q4 := (tb_4.on hw tb_4.lt).cell 1; have q5 := (tb_4.on hw tb_4.lt).cell 2; go_simp; exact rfl), ?_⟩); go_simp; refine hK _ ?_; clear hK K)
  refine bel_call rfl (fun K hK => ⟨_, _, _, (fun w' => by go_simp <;> first | exact rfl | exact ⟨rfl, rfl⟩), (fun w' hw => HTM.out _), ?_⟩); go_simp; refine hK _ ?_; clear hK K
  repeat (refine bel_step rfl (fun K hK => ⟨_, (fun w' hw => by have q0 := (ta_4.on hw ta_4.lt).cell 0; have q1 := (ta_4.on hw ta_4.lt).cell 1; have q2 := (ta_4.on hw ta_4.lt).cell 2; have q3 := (tb_4.on hw tb_4.lt).cell 0; have q4 := (tb_4.on hw tb_4.lt).cell 1; have q5 := (tb_4.on hw tb_4.lt).cell 2; go_simp; exact rfl), ?_⟩); go_simp; refine hK _ ?_; clear hK K)
  refine bel_call rfl (fun K hK => ⟨_, _, _, (fun w' => by go_simp <;> first | exact rfl | exact ⟨rfl, rfl⟩), (fun w' hw => HTN.out _), ?_⟩); go_simp; refine hK _ ?_; clear hK K
  refine bel_call rfl (fun K hK => ⟨_, _, _, (fun w' => by go_simp <;> first | exact rfl | exact ⟨rfl, rfl⟩), (fun w' hw => HPR.out _), ?_⟩); go_simp; refine hK _ ?_; clear hK K
  refine bel_nil ?_
  intro gn w' hw hgn hnew
  refine frame_out fun K hK => ?_
  go_simp
  refine hK _ ?_
  clear hK K
  refine store_blk (cs' := #[.int .i64 X.1, .int .i64 X.2]) rfl rfl rfl rfl rfl hnew infoT rfl (ones2 _ _) ?_
  intro V5 tx_5 hoth hbel
  have ta_5 := hoth _ _ _ (by have := ta_4.lt; omega) (ta_4.on hw ta_4.lt)
  have tb_5 := hoth _ _ _ (by have := tb_4.lt; omega) (tb_4.on hw tb_4.lt)
  have tc_5 := hoth _ _ _ (by have := tc_4.lt; omega) (tc_4.on hw tc_4.lt)
  have te_5 := hoth _ _ _ (by have := te_4.lt; omega) (te_4.on hw te_4.lt)
  have hB5 := hbel _ _ (by have := hB4.size; omega) (below_then hB4 hw)
  clear hoth hbel hnew hgn hw ta_4 tb_4 tc_4 te_4 hB4
  go_wp2
  refine wp_region_made 5 mixes (by kernel_rfl) rfl rfl (fun a w => by go_simp <;> rfl) ?_
  simp only [List.take_succ_cons, List.take_zero, List.drop_succ_cons, List.drop_zero]
  repeat (refine bel_step rfl (fun K hK => ⟨_, (fun w' hw => by have q0 := (ta_5.on hw ta_5.lt).cell 0; have q1 := (ta_5.on hw ta_5.lt).cell 1; have q2 := (ta_5.on hw ta_5.lt).cell 2; have q3 := (tc_5.on hw tc_5.lt).cell 0; have q4 := (tc_5.on hw tc_5.lt).cell 1; have q5 := (tc_5.on hw tc_5.lt).cell 2; have q6 := (tb_5.on hw tb_5.lt).cell 0; have q7 := (tb_5.on hw tb_5.lt).cell 1; have q8 := (tb_5.on hw tb_5.lt).cell 2; go_simp; exact rfl), ?_⟩); go_simp; refine hK _ ?_; clear hK K)
  refine bel_call rfl (fun K hK => ⟨_, _, _, (fun w' => by go_simp <;> first | exact rfl | exact ⟨rfl, rfl⟩), (fun w' hw => HS.out _), ?_⟩); go_simp; refine hK _ ?_; clear hK K
  repeat (refine bel_step rfl (fun K hK => ⟨_, (fun w' hw => by have q0 := (ta_5.on hw ta_5.lt).cell 0; have q1 := (ta_5.on hw ta_5.lt).cell 1; have q2 := (ta_5.on hw ta_5.lt).cell 2; have q3 := (tc_5.on hw tc_5.lt).cell 0; have q4 := (tc_5.on hw tc_5.lt).cell 1; have q5 := (tc_5.on hw tc_5.lt).cell 2; have q6 := (tb_5.on hw tb_5.lt).cell 0; have q7 := (tb_5.on hw tb_5.lt).cell 1; have q8 := (tb_5.on hw tb_5.lt).cell 2; go_simp; exact rfl), ?_⟩); go_simp; refine hK _ ?_; clear hK K)
  refine bel_call rfl (fun K hK => ⟨_, _, _, (fun w' => by go_simp <;> first | exact rfl | exact ⟨rfl, rfl⟩), (fun w' hw => HY.out _), ?_⟩); go_simp; refine hK _ ?_; clear hK K
  refine bel_nil ?_
  intro gn w' hw hgn hnew
  refine frame_out fun K hK => ?_
  go_simp
  refine hK _ ?_
  clear hK K
  refine store_blk (cs' := #[.int .i64 Y.1, .int .i64 Y.2]) rfl rfl rfl rfl rfl hnew infoT rfl (ones2 _ _) ?_
  intro V6 ty_6 hoth hbel
  have ta_6 := hoth _ _ _ (by have := ta_5.lt; omega) (ta_5.on hw ta_5.lt)
  have tb_6 := hoth _ _ _ (by have := tb_5.lt; omega) (tb_5.on hw tb_5.lt)
  have tc_6 := hoth _ _ _ (by have := tc_5.lt; omega) (tc_5.on hw tc_5.lt)
  have te_6 := hoth _ _ _ (by have := te_5.lt; omega) (te_5.on hw te_5.lt)
  have tx_6 := hoth _ _ _ (by have := tx_5.lt; omega) (tx_5.on hw tx_5.lt)
  have hB6 := hbel _ _ (by have := hB5.size; omega) (below_then hB5 hw)
  clear hoth hbel hnew hgn hw ta_5 tb_5 tc_5 te_5 tx_5 hB5
  go_wp2
  refine wp_region_class 37 (fun wz => Below V6.heap.size V6 wz) mixes (by kernel_rfl) (Below.refl _ _).drew ?_
  simp only [List.take_succ_cons, List.take_zero, List.drop_succ_cons, List.drop_zero]
  repeat (refine cls_stepG rfl (fun K hK => ⟨_, (fun w' hw => by have q0 := (tx_6.on hw tx_6.lt).cell 0; have q1 := (tx_6.on hw tx_6.lt).cell 1; have q2 := (te_6.on hw te_6.lt).cell 0; have q3 := (te_6.on hw te_6.lt).cell 1; go_simp; exact rfl), ?_⟩); go_simp; refine hK _ ?_; clear hK K)
  refine cls_callG rfl (fun K hK => ⟨_, _, _, (fun w' => by go_simp <;> first | exact rfl | exact ⟨rfl, rfl⟩), (fun w' hw => calls_below hw (HPW.out _)), ?_⟩); go_simp; refine hK _ ?_; clear hK K
  repeat (refine cls_stepG rfl (fun K hK => ⟨_, (fun w' hw => by have q0 := (ty_6.on hw ty_6.lt).cell 0; have q1 := (ty_6.on hw ty_6.lt).cell 1; have q2 := (te_6.on hw te_6.lt).cell 0; have q3 := (te_6.on hw te_6.lt).cell 1; go_simp; exact rfl), ?_⟩); go_simp; refine hK _ ?_; clear hK K)
  repeat (refine cls_stepG rfl (fun K hK => ⟨_, (fun w' hw => by have q0 := (tc_6.on hw tc_6.lt).cell 0; have q1 := (tc_6.on hw tc_6.lt).cell 1; have q2 := (tc_6.on hw tc_6.lt).cell 2; have q3 := (tb_6.on hw tb_6.lt).cell 0; have q4 := (tb_6.on hw tb_6.lt).cell 1; have q5 := (tb_6.on hw tb_6.lt).cell 2; go_simp; exact rfl), ?_⟩); go_simp; refine hK _ ?_; clear hK K)
  refine cls_callG rfl (fun K hK => ⟨_, _, _, (fun w' => by go_simp <;> first | exact rfl | exact ⟨rfl, rfl⟩), (fun w' hw => calls_below hw (HC.out _)), ?_⟩); go_simp; refine hK _ ?_; clear hK K
  refine cls_callG rfl (fun K hK => ⟨_, _, _, (fun w' => by go_simp <;> first | exact rfl | exact ⟨rfl, rfl⟩), (fun w' hw => calls_below hw (HMu.out _)), ?_⟩); go_simp; refine hK _ ?_; clear hK K
  repeat (refine cls_stepG rfl (fun K hK => ⟨_, (fun w' hw => by have q0 := (te_6.on hw te_6.lt).cell 0; have q1 := (te_6.on hw te_6.lt).cell 1; go_simp; exact rfl), ?_⟩); go_simp; refine hK _ ?_; clear hK K)
  refine cls_callG rfl (fun K hK => ⟨_, _, _, (fun w' => by go_simp <;> first | exact rfl | exact ⟨rfl, rfl⟩), (fun w' hw => calls_below hw (HOr.out _)), ?_⟩); go_simp; refine hK _ ?_; clear hK K
  repeat (refine cls_stepG rfl (fun K hK => ⟨_, (fun w' hw => by have q0 := (te_6.on hw te_6.lt).cell 0; have q1 := (te_6.on hw te_6.lt).cell 1; go_simp; exact rfl), ?_⟩); go_simp; refine hK _ ?_; clear hK K)
  repeat (refine cls_stepG rfl (fun K hK => ⟨_, (fun w' hw => by have q0 := (tb_6.on hw tb_6.lt).cell 0; have q1 := (tb_6.on hw tb_6.lt).cell 1; have q2 := (tb_6.on hw tb_6.lt).cell 2; have q3 := (ta_6.on hw ta_6.lt).cell 0; have q4 := (ta_6.on hw ta_6.lt).cell 1; have q5 := (ta_6.on hw ta_6.lt).cell 2; go_simp; exact rfl), ?_⟩); go_simp; refine hK _ ?_; clear hK K)
  refine cls_callG rfl (fun K hK => ⟨_, _, _, (fun w' => by go_simp <;> first | exact rfl | exact ⟨rfl, rfl⟩), (fun w' hw => calls_below hw (HSy.out _)), ?_⟩); go_simp; refine hK _ ?_; clear hK K
  repeat (refine cls_stepG rfl (fun K hK => ⟨_, (fun w' hw => by have q0 := (te_6.on hw te_6.lt).cell 0; have q1 := (te_6.on hw te_6.lt).cell 1; go_simp; exact rfl), ?_⟩); go_simp; refine hK _ ?_; clear hK K)
  repeat (refine cls_stepG rfl (fun K hK => ⟨_, (fun w' hw => by have q0 := (ta_6.on hw ta_6.lt).cell 0; have q1 := (ta_6.on hw ta_6.lt).cell 1; have q2 := (ta_6.on hw ta_6.lt).cell 2; have q3 := (tb_6.on hw tb_6.lt).cell 0; have q4 := (tb_6.on hw tb_6.lt).cell 1; have q5 := (tb_6.on hw tb_6.lt).cell 2; go_simp; exact rfl), ?_⟩); go_simp; refine hK _ ?_; clear hK K)
  refine cls_callG rfl (fun K hK => ⟨_, _, _, (fun w' => by go_simp <;> first | exact rfl | exact ⟨rfl, rfl⟩), (fun w' hw => calls_below hw (HSp.out _)), ?_⟩); go_simp; refine hK _ ?_; clear hK K
  repeat (refine cls_stepG rfl (fun K hK => ⟨_, (fun w' hw => by go_simp; exact rfl), ?_⟩); go_simp; refine hK _ ?_; clear hK K)
  refine wq_nil ?_
  intro w' hw
  go_wp2
  go_ret
  exact ⟨rfl, below_then hB6 hw⟩

end Go.Proofs.Ytckhbflolccinaa
