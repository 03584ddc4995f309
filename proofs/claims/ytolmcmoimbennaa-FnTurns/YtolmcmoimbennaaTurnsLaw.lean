/-
  The walk of the law that a number two by two to FieldP is the one turned.
-/
import Derived.Test.YtolmcmoimbennaaTwosLaw
import Derived.Test.YtolmcmoimbennaaTwoFrob
namespace Go.Proofs.Ytolmcmoimbennaa
open Go.RowKit

set_option maxHeartbeats 6400000 in
set_option maxRecDepth 100000 in
theorem lawTurns (a : Option Addr) (len cap : Nat) (hm : len ≤ 9223372036854775807) (w : World) (hA : ArgAt w a len w.heap.size) :
    Calls Try.prog 4 #[.slice a len cap] w fun e w' => e = .returned (.bool true) ∧ Below w.heap.size w w' := by
  have HA : Hid (ArgAt w a len w.heap.size) := hA
  clear hA
  by_cases hb : 1048576 < len
  · have hd : decide (1048576 < len) = true := decide_eq_true hb
    go_enter Try.func4, Try.ntmps4
    go_wp2_with (go_at_call 8; refine (big_any _ _ _ hm _).mono ?_; rintro e w0 ⟨rfl, rfl⟩)
    go_ret
    exact ⟨rfl, Below.refl _ _⟩
  have hd : decide (1048576 < len) = false := decide_eq_false hb
  have hm1 : len ≤ 1048576 := by omega
  go_enter Try.func4, Try.ntmps4
  go_wp2_with (go_at_call 8; refine (big_any _ _ _ hm _).mono ?_; rintro e w0 ⟨rfl, rfl⟩)
  refine (drawTwos_any len cap a hm1 _ HA.out).mono ?_
  rintro e w1 ⟨p, q, rfl, hpq, hb1⟩
  clear hb hd
  have HF : Hid (∀ w, Calls Try.prog 14 #[tv p, .int .i64 12107] w fun e w' => e = .returned (tv (tt p)) ∧ Below w.heap.size w w') := by rw [← tp_frob hpq.1 hpq.2.1]; exact iPow2_any p 12107 (by omega)
  have HT : Hid (∀ w, Calls Try.prog 11 #[tv p] w fun e w' => e = .returned (tv (tt p)) ∧ Below w.heap.size w w') := iTurn_any p
  have HTq : Hid (∀ w, Calls Try.prog 11 #[tv q] w fun e w' => e = .returned (tv (tt q)) ∧ Below w.heap.size w w') := iTurn_any q
  have HM : Hid (∀ w, Calls Try.prog 10 #[tv p, tv q] w fun e w' => e = .returned (tv (tm p q)) ∧ Below w.heap.size w w') := iMul2_any p q
  have HTM : Hid (∀ w, Calls Try.prog 11 #[tv (tm p q)] w fun e w' => e = .returned (tv (tt (tm p q))) ∧ Below w.heap.size w w') := iTurn_any _
  have HMM : Hid (∀ w, Calls Try.prog 10 #[tv (tt p), tv (tt q)] w fun e w' => e = .returned (tv (tt (tm p q))) ∧ Below w.heap.size w w') := by rw [turn_product]; exact iMul2_any _ _
  have HA1 : Hid (ArgAt w1 a len w1.heap.size) := HA.out.behind hb1
  clear hpq HA
  generalize tt (tm p q) = U at HTM HMM
  generalize tm p q = M at HM HTM
  generalize tt p = T at HF HT HMM
  generalize tt q = T2 at HTq HMM
  obtain ⟨W, hW, hbW, h3, h4⟩ := boxes1r w1 25 25 #[.int .i64 p.1, .int .i64 p.2] #[.int .i64 q.1, .int .i64 q.2]
  go_wp2_with fail
  clear hW
  have hbA := below_then hb1 hbW
  have HA2 : Hid (ArgAt W a len W.heap.size) := HA1.out.behind hbW
  clear hb1 hbW HA1
  refine (drawTwoOk_any len cap a hm1 _ HA2.out).mono ?_
  rintro e w2 ⟨x, rfl, _, hb2⟩
  have HO1 : Hid (∀ w, Calls Try.prog 18 #[tv x] w fun e w' => e = .returned (.bool (fpOk x.1 && fpOk x.2)) ∧ Below w.heap.size w w') := iOk2_any x
  have HO2 : Hid (∀ w, Calls Try.prog 21 #[tv x] w fun e w' => e = .returned (.bool (fpOk x.1 && fpOk x.2)) ∧ Below w.heap.size w w') := sOk2_any x
  generalize (fpOk x.1 && fpOk x.2) = ok at HO1 HO2
  have h3a := h3.on hb2 h3.lt
  have h4a := h4.on hb2 h4.lt
  have hbB := below_then hbA hb2
  have HA3 : Hid (ArgAt w2 a len w2.heap.size) := HA2.out.behind hb2
  clear h3 h4 hbA HA2 hb2
  obtain ⟨V, hV, hbV, h5⟩ := box1 w2 25 #[.int .i64 x.1, .int .i64 x.2]
  go_wp2_with fail
  clear hV
  have h3b := h3a.on hbV h3a.lt
  have h4b := h4a.on hbV h4a.lt
  have hbC := below_then hbB hbV
  have HA4 : Hid (ArgAt V a len V.heap.size) := HA3.out.behind hbV
  clear h3a h4a hbB HA3 hbV
  refine (drawTwoMul_any len cap a hm1 _ HA4.out).mono ?_
  rintro e w3 ⟨y, z, rfl, _, hb3⟩
  have HY1 : Hid (∀ w, Calls Try.prog 10 #[tv y, tv z] w fun e w' => e = .returned (tv (tm y z)) ∧ Below w.heap.size w w') := iMul2_any y z
  have HY2 : Hid (∀ w, Calls Try.prog 22 #[tv y, tv z] w fun e w' => e = .returned (tv (tm y z)) ∧ Below w.heap.size w w') := sMul2_any y z
  have HV1 : Hid (∀ w, Calls Try.prog 12 #[tv y] w fun e w' => e = .returned (tv (ti y)) ∧ Below w.heap.size w w') := iInv2_any y
  have HV2 : Hid (∀ w, Calls Try.prog 23 #[tv y] w fun e w' => e = .returned (tv (ti y)) ∧ Below w.heap.size w w') := sInv2_any y
  have HE1 : Hid (∀ w, Calls Try.prog 17 #[tv y, tv z] w fun e w' => e = .returned (tv (ta y z)) ∧ Below w.heap.size w w') := iAdd2_any y z
  have HE2 : Hid (∀ w, Calls Try.prog 24 #[tv y, tv z] w fun e w' => e = .returned (tv (ta y z)) ∧ Below w.heap.size w w') := sAdd2_any y z
  generalize tm y z = G at HY1 HY2
  generalize ti y = J at HV1 HV2
  generalize ta y z = E at HE1 HE2
  have h3c := h3b.on hb3 h3b.lt
  have h4c := h4b.on hb3 h4b.lt
  have h5c := h5.on hb3 h5.lt
  have hbD := below_then hbC hb3
  clear h3b h4b h5 hbC HA4 hb3
  obtain ⟨V2, hV2, hbV2, h6, h7⟩ := boxes1r w3 25 25 #[.int .i64 y.1, .int .i64 y.2] #[.int .i64 z.1, .int .i64 z.2]
  go_wp2
  clear hV2
  have h3d := h3c.on hbV2 h3c.lt
  have h4d := h4c.on hbV2 h4c.lt
  have h5d := h5c.on hbV2 h5c.lt
  have hbE := below_then hbD hbV2
  clear h3c h4c h5c hbD hbV2
  refine wp_region_class 49 (fun wz => Below V2.heap.size V2 wz) mixes (by kernel_rfl) (Below.refl _ _).drew ?_
  simp only [List.take_succ_cons, List.take_zero, List.drop_succ_cons, List.drop_zero]
  repeat (refine cls_stepG rfl (fun K hK => ⟨_, (fun w' hw => by have q0 := (h3d.on hw h3d.lt).cell 0; have q1 := (h3d.on hw h3d.lt).cell 1; go_simp; exact rfl), ?_⟩); go_simp; refine hK _ ?_; clear hK K)
  refine cls_callG rfl (fun K hK => ⟨_, _, _, (fun w' => by go_simp <;> first | exact rfl | exact ⟨rfl, rfl⟩), (fun w' hw => calls_below hw (HF.out _)), ?_⟩); go_simp; refine hK _ ?_; clear hK K
  repeat (refine cls_stepG rfl (fun K hK => ⟨_, (fun w' hw => by have q0 := (h3d.on hw h3d.lt).cell 0; have q1 := (h3d.on hw h3d.lt).cell 1; go_simp; exact rfl), ?_⟩); go_simp; refine hK _ ?_; clear hK K)
  refine cls_callG rfl (fun K hK => ⟨_, _, _, (fun w' => by go_simp <;> first | exact rfl | exact ⟨rfl, rfl⟩), (fun w' hw => calls_below hw (HT.out _)), ?_⟩); go_simp; refine hK _ ?_; clear hK K
  repeat (refine cls_stepG rfl (fun K hK => ⟨_, (fun w' hw => by have q0 := (h3d.on hw h3d.lt).cell 0; have q1 := (h3d.on hw h3d.lt).cell 1; have q2 := (h4d.on hw h4d.lt).cell 0; have q3 := (h4d.on hw h4d.lt).cell 1; go_simp; exact rfl), ?_⟩); go_simp; refine hK _ ?_; clear hK K)
  refine cls_callG rfl (fun K hK => ⟨_, _, _, (fun w' => by go_simp <;> first | exact rfl | exact ⟨rfl, rfl⟩), (fun w' hw => calls_below hw (HM.out _)), ?_⟩); go_simp; refine hK _ ?_; clear hK K
  refine cls_callG rfl (fun K hK => ⟨_, _, _, (fun w' => by go_simp <;> first | exact rfl | exact ⟨rfl, rfl⟩), (fun w' hw => calls_below hw (HTM.out _)), ?_⟩); go_simp; refine hK _ ?_; clear hK K
  repeat (refine cls_stepG rfl (fun K hK => ⟨_, (fun w' hw => by have q0 := (h3d.on hw h3d.lt).cell 0; have q1 := (h3d.on hw h3d.lt).cell 1; go_simp; exact rfl), ?_⟩); go_simp; refine hK _ ?_; clear hK K)
  refine cls_callG rfl (fun K hK => ⟨_, _, _, (fun w' => by go_simp <;> first | exact rfl | exact ⟨rfl, rfl⟩), (fun w' hw => calls_below hw (HT.out _)), ?_⟩); go_simp; refine hK _ ?_; clear hK K
  repeat (refine cls_stepG rfl (fun K hK => ⟨_, (fun w' hw => by have q0 := (h4d.on hw h4d.lt).cell 0; have q1 := (h4d.on hw h4d.lt).cell 1; go_simp; exact rfl), ?_⟩); go_simp; refine hK _ ?_; clear hK K)
  refine cls_callG rfl (fun K hK => ⟨_, _, _, (fun w' => by go_simp <;> first | exact rfl | exact ⟨rfl, rfl⟩), (fun w' hw => calls_below hw (HTq.out _)), ?_⟩); go_simp; refine hK _ ?_; clear hK K
  refine cls_callG rfl (fun K hK => ⟨_, _, _, (fun w' => by go_simp <;> first | exact rfl | exact ⟨rfl, rfl⟩), (fun w' hw => calls_below hw (HMM.out _)), ?_⟩); go_simp; refine hK _ ?_; clear hK K
  repeat (refine cls_stepG rfl (fun K hK => ⟨_, (fun w' hw => by have q0 := (h5d.on hw h5d.lt).cell 0; have q1 := (h5d.on hw h5d.lt).cell 1; go_simp; exact rfl), ?_⟩); go_simp; refine hK _ ?_; clear hK K)
  refine cls_callG rfl (fun K hK => ⟨_, _, _, (fun w' => by go_simp <;> first | exact rfl | exact ⟨rfl, rfl⟩), (fun w' hw => calls_below hw (HO1.out _)), ?_⟩); go_simp; refine hK _ ?_; clear hK K
  repeat (refine cls_stepG rfl (fun K hK => ⟨_, (fun w' hw => by have q0 := (h5d.on hw h5d.lt).cell 0; have q1 := (h5d.on hw h5d.lt).cell 1; go_simp; exact rfl), ?_⟩); go_simp; refine hK _ ?_; clear hK K)
  refine cls_callG rfl (fun K hK => ⟨_, _, _, (fun w' => by go_simp <;> first | exact rfl | exact ⟨rfl, rfl⟩), (fun w' hw => calls_below hw (HO2.out _)), ?_⟩); go_simp; refine hK _ ?_; clear hK K
  repeat (refine cls_stepG rfl (fun K hK => ⟨_, (fun w' hw => by have q0 := (h6.on hw h6.lt).cell 0; have q1 := (h6.on hw h6.lt).cell 1; have q2 := (h7.on hw h7.lt).cell 0; have q3 := (h7.on hw h7.lt).cell 1; go_simp; exact rfl), ?_⟩); go_simp; refine hK _ ?_; clear hK K)
  refine cls_callG rfl (fun K hK => ⟨_, _, _, (fun w' => by go_simp <;> first | exact rfl | exact ⟨rfl, rfl⟩), (fun w' hw => calls_below hw (HY1.out _)), ?_⟩); go_simp; refine hK _ ?_; clear hK K
  repeat (refine cls_stepG rfl (fun K hK => ⟨_, (fun w' hw => by have q0 := (h6.on hw h6.lt).cell 0; have q1 := (h6.on hw h6.lt).cell 1; have q2 := (h7.on hw h7.lt).cell 0; have q3 := (h7.on hw h7.lt).cell 1; go_simp; exact rfl), ?_⟩); go_simp; refine hK _ ?_; clear hK K)
  refine cls_callG rfl (fun K hK => ⟨_, _, _, (fun w' => by go_simp <;> first | exact rfl | exact ⟨rfl, rfl⟩), (fun w' hw => calls_below hw (HY2.out _)), ?_⟩); go_simp; refine hK _ ?_; clear hK K
  repeat (refine cls_stepG rfl (fun K hK => ⟨_, (fun w' hw => by have q0 := (h6.on hw h6.lt).cell 0; have q1 := (h6.on hw h6.lt).cell 1; go_simp; exact rfl), ?_⟩); go_simp; refine hK _ ?_; clear hK K)
  refine cls_callG rfl (fun K hK => ⟨_, _, _, (fun w' => by go_simp <;> first | exact rfl | exact ⟨rfl, rfl⟩), (fun w' hw => calls_below hw (HV1.out _)), ?_⟩); go_simp; refine hK _ ?_; clear hK K
  repeat (refine cls_stepG rfl (fun K hK => ⟨_, (fun w' hw => by have q0 := (h6.on hw h6.lt).cell 0; have q1 := (h6.on hw h6.lt).cell 1; go_simp; exact rfl), ?_⟩); go_simp; refine hK _ ?_; clear hK K)
  refine cls_callG rfl (fun K hK => ⟨_, _, _, (fun w' => by go_simp <;> first | exact rfl | exact ⟨rfl, rfl⟩), (fun w' hw => calls_below hw (HV2.out _)), ?_⟩); go_simp; refine hK _ ?_; clear hK K
  repeat (refine cls_stepG rfl (fun K hK => ⟨_, (fun w' hw => by have q0 := (h6.on hw h6.lt).cell 0; have q1 := (h6.on hw h6.lt).cell 1; have q2 := (h7.on hw h7.lt).cell 0; have q3 := (h7.on hw h7.lt).cell 1; go_simp; exact rfl), ?_⟩); go_simp; refine hK _ ?_; clear hK K)
  refine cls_callG rfl (fun K hK => ⟨_, _, _, (fun w' => by go_simp <;> first | exact rfl | exact ⟨rfl, rfl⟩), (fun w' hw => calls_below hw (HE1.out _)), ?_⟩); go_simp; refine hK _ ?_; clear hK K
  repeat (refine cls_stepG rfl (fun K hK => ⟨_, (fun w' hw => by have q0 := (h6.on hw h6.lt).cell 0; have q1 := (h6.on hw h6.lt).cell 1; have q2 := (h7.on hw h7.lt).cell 0; have q3 := (h7.on hw h7.lt).cell 1; go_simp; exact rfl), ?_⟩); go_simp; refine hK _ ?_; clear hK K)
  refine cls_callG rfl (fun K hK => ⟨_, _, _, (fun w' => by go_simp <;> first | exact rfl | exact ⟨rfl, rfl⟩), (fun w' hw => calls_below hw (HE2.out _)), ?_⟩); go_simp; refine hK _ ?_; clear hK K
  repeat (refine cls_stepG rfl (fun K hK => ⟨_, (fun w' hw => by go_simp; exact rfl), ?_⟩); go_simp; refine hK _ ?_; clear hK K)
  refine wpQuiet_nil ?_
  intro w' hw

  have hbF := below_then hbE hw
  clear h3d h4d h5d h6 h7 hbE hw
  go_wp2
  go_ret
  exact ⟨rfl, hbF⟩

end Go.Proofs.Ytolmcmoimbennaa
