/-
  The walk of the law that numbers two by two make a field.
-/
import Derived.Test.YtolmcmoimbennaaTwoDraw2
import Derived.Test.YtolmcmoimbennaaTwoSP
import Derived.Test.YtolmcmoimbennaaTwoQ
import Derived.Test.YtolmcmoimbennaaTwoR
import Derived.Test.YtolmcmoimbennaaByteArg
import Derived.Test.YtolmcmoimbennaaClsG
namespace Go.Proofs.Ytolmcmoimbennaa
open Go.RowKit

theorem ArgAt.wide {w : World} {a : Option Addr} {len c d : Nat} (h : ArgAt w a len c) (hd : c ≤ d) : ArgAt w a len d := fun j hj => by
  obtain ⟨b, off, z, h1, h2, h3⟩ := h j hj
  exact ⟨b, off, z, h1, by omega, h3⟩
theorem ArgAt.behind {w w' : World} {a : Option Addr} {len : Nat} (h : ArgAt w a len w.heap.size) (hb : Below w.heap.size w w') : ArgAt w' a len w'.heap.size := (h.on hb).wide hb.size

set_option maxHeartbeats 6400000 in
set_option maxRecDepth 100000 in
theorem lawTwos (a : Option Addr) (len cap : Nat) (hm : len ≤ 9223372036854775807) (w : World) (hA : ArgAt w a len w.heap.size) :
    Calls Try.prog 3 #[.slice a len cap] w fun e w' => e = .returned (.bool true) ∧ Below w.heap.size w w' := by
  have HA : Hid (ArgAt w a len w.heap.size) := hA
  clear hA
  by_cases hb : 1048576 < len
  · have hd : decide (1048576 < len) = true := decide_eq_true hb
    go_enter Try.func3, Try.ntmps3
    go_wp2_with (go_at_call 8; refine (big_any _ _ _ hm _).mono ?_; rintro e w0 ⟨rfl, rfl⟩)
    go_ret
    exact ⟨rfl, Below.refl _ _⟩
  have hd : decide (1048576 < len) = false := decide_eq_false hb
  have hm1 : len ≤ 1048576 := by omega
  go_enter Try.func3, Try.ntmps3
  go_wp2_with (go_at_call 8; refine (big_any _ _ _ hm _).mono ?_; rintro e w0 ⟨rfl, rfl⟩)
  refine (drawTwos_any len cap a hm1 _ HA.out).mono ?_
  rintro e w1 ⟨p, q, rfl, hpq, hb1⟩
  clear hb hd
  obtain ⟨X, hX⟩ : ∃ X, X = tm p q := ⟨_, rfl⟩
  obtain ⟨nm, hnm⟩ : ∃ nm, nm = fp (p.1 * p.1 + p.2 * p.2) := ⟨_, rfl⟩
  have hp0 : p ≠ (0, 0) := fun e => hpq.2.1 (by rw [e])
  have hn0 : ¬ nm = 0 := by have := norm_pos hpq.1 hp0; omega
  have HM1 : Hid (∀ w, Calls Try.prog 10 #[tv p, tv q] w fun e w' => e = .returned (tv X) ∧ Below w.heap.size w w') := by rw [hX]; exact iMul2_any p q
  have HM2 : Hid (∀ w, Calls Try.prog 10 #[tv q, tv p] w fun e w' => e = .returned (tv X) ∧ Below w.heap.size w w') := by rw [hX, ← tm_comm]; exact iMul2_any q p
  have HT : Hid (∀ w, Calls Try.prog 11 #[tv p] w fun e w' => e = .returned (tv (tt p)) ∧ Below w.heap.size w w') := iTurn_any p
  have HN : Hid (∀ w, Calls Try.prog 10 #[tv p, tv (tt p)] w fun e w' => e = .returned (tv (nm, 0)) ∧ Below w.heap.size w w') := by rw [hnm, ← tm_turned]; exact iMul2_any p (tt p)
  have HV : Hid (∀ w, Calls Try.prog 12 #[tv p] w fun e w' => e = .returned (tv (ti p)) ∧ Below w.heap.size w w') := iInv2_any p
  have HI : Hid (∀ w, Calls Try.prog 10 #[tv p, tv (ti p)] w fun e w' => e = .returned (tv (1, 0)) ∧ Below w.heap.size w w') := by rw [← tm_inv hpq.1 hp0]; exact iMul2_any p (ti p)
  have HE1 : Hid (∀ w, Calls Try.prog 17 #[tv p, tv q] w fun e w' => e = .returned (tv (ta p q)) ∧ Below w.heap.size w w') := iAdd2_any p q
  have HE2 : Hid (∀ w, Calls Try.prog 17 #[tv q, tv p] w fun e w' => e = .returned (tv (ta p q)) ∧ Below w.heap.size w w') := by rw [← ta_comm]; exact iAdd2_any q p
  have HO : Hid (∀ w, Calls Try.prog 18 #[tv X] w fun e w' => e = .returned (.bool true) ∧ Below w.heap.size w w') := by
    have h := iOk2_any X
    rw [show (fpOk X.1 && fpOk X.2) = true by
      have h2 : In2 X := by rw [hX]; exact in2_fp2 _
      unfold fpOk
      rw [decide_eq_true h2.1, decide_eq_true h2.2]; rfl] at h
    exact h
  have HPP : Hid (∀ k : Nat, tm (tp p (k : Int)) (tp p 3) = tp p ((k : Int) + 3)) := fun k => tp_sum p k 3
  have HA1 : Hid (ArgAt w1 a len w1.heap.size) := HA.out.behind hb1
  clear hX hnm hpq hp0 HA
  generalize tt p = T at HT HN
  generalize ti p = I at HV HI
  generalize ta p q = E at HE1 HE2
  obtain ⟨W, hW, hbW, h3, h4⟩ := boxes1r w1 25 25 #[.int .i64 p.1, .int .i64 p.2] #[.int .i64 q.1, .int .i64 q.2]
  go_wp2_with (first | (refine load_blk rfl rfl rfl h3 Try.underlying25 infoT ?_) | (refine load_blk rfl rfl rfl h4 Try.underlying25 infoT ?_))
  refine (HM1.out _).mono ?_
  rintro e w2 ⟨rfl, hb2⟩
  have hbA := below_then hb1 hbW
  have HA2 : Hid (ArgAt w2 a len w2.heap.size) := (HA1.out.behind hbW).behind hb2
  have h32 := h3.on hb2 h3.lt
  have h42 := h4.on hb2 h4.lt
  have hbB := below_then hbA hb2
  clear hW hb1 hbW h3 h4 hb2 hbA HA1
  obtain ⟨V, hV, hbV, h5⟩ := box1 w2 25 #[.int .i64 X.1, .int .i64 X.2]
  go_wp2
  have h3V := h32.on hbV h32.lt
  have h4V := h42.on hbV h42.lt
  have hbC := below_then hbB hbV
  have HAV : Hid (ArgAt V a len V.heap.size) := HA2.out.behind hbV
  clear hV hbV h32 h42 hbB HA2
  refine wp_region_made 4 mixes (by kernel_rfl) rfl rfl (fun a w => by go_simp <;> rfl) ?_
  simp only [List.take_succ_cons, List.take_zero, List.drop_succ_cons, List.drop_zero]
  repeat (refine bel_step rfl (fun K hK => ⟨_, (fun w' hw => by have q0 := (h3V.on hw h3V.lt).cell 0; have q1 := (h3V.on hw h3V.lt).cell 1; go_simp; exact rfl), ?_⟩); go_simp; refine hK _ ?_; clear hK K)
  refine bel_call rfl (fun K hK => ⟨_, _, _, (fun w' => by go_simp <;> first | exact rfl | exact ⟨rfl, rfl⟩), (fun w' hw => HT.out _), ?_⟩); go_simp; refine hK _ ?_; clear hK K
  refine bel_call rfl (fun K hK => ⟨_, _, _, (fun w' => by go_simp <;> first | exact rfl | exact ⟨rfl, rfl⟩), (fun w' hw => HN.out _), ?_⟩); go_simp; refine hK _ ?_; clear hK K
  refine bel_nil ?_
  intro gn w' hw hgn hnew
  refine frame_out fun K hK => ?_
  go_simp
  refine hK _ ?_
  clear hK K

  refine store_blk (cs' := #[.int .i64 nm, .int .i64 0]) rfl rfl rfl rfl rfl hnew infoT rfl (ones2 _ _) ?_
  intro V1 h6 hoth hbel
  have h3a := hoth _ _ _ (by have := h3V.lt; omega) (h3V.on hw h3V.lt)
  have h4a := hoth _ _ _ (by have := h4V.lt; omega) (h4V.on hw h4V.lt)
  have h5a := hoth _ _ _ (by have := h5.lt; omega) (h5.on hw h5.lt)
  have hbD := hbel _ _ (by have := hbC.size; omega) (below_then hbC hw)
  have HA3 : Hid (ArgAt V1 a len V1.heap.size) := HAV.out.behind (hbel _ _ hgn hw)
  clear hoth hbel hnew hgn h3V h4V h5 hbC hw HAV
  go_wp2
  refine wp_region_made 4 mixes (by kernel_rfl) rfl rfl (fun a w => by go_simp <;> rfl) ?_
  simp only [List.take_succ_cons, List.take_zero, List.drop_succ_cons, List.drop_zero]
  repeat (refine bel_step rfl (fun K hK => ⟨_, (fun w' hw => by have q0 := (h3a.on hw h3a.lt).cell 0; have q1 := (h3a.on hw h3a.lt).cell 1; go_simp; exact rfl), ?_⟩); go_simp; refine hK _ ?_; clear hK K)
  refine bel_call rfl (fun K hK => ⟨_, _, _, (fun w' => by go_simp <;> first | exact rfl | exact ⟨rfl, rfl⟩), (fun w' hw => HV.out _), ?_⟩); go_simp; refine hK _ ?_; clear hK K
  refine bel_call rfl (fun K hK => ⟨_, _, _, (fun w' => by go_simp <;> first | exact rfl | exact ⟨rfl, rfl⟩), (fun w' hw => HI.out _), ?_⟩); go_simp; refine hK _ ?_; clear hK K
  refine bel_nil ?_
  intro gn w' hw hgn hnew
  refine frame_out fun K hK => ?_
  go_simp
  refine hK _ ?_
  clear hK K

  refine store_blk (cs' := #[.int .i64 1, .int .i64 0]) rfl rfl rfl rfl rfl hnew infoT rfl (ones2 _ _) ?_
  intro V2 h7 hoth hbel
  have h3b := hoth _ _ _ (by have := h3a.lt; omega) (h3a.on hw h3a.lt)
  have h4b := hoth _ _ _ (by have := h4a.lt; omega) (h4a.on hw h4a.lt)
  have h5b := hoth _ _ _ (by have := h5a.lt; omega) (h5a.on hw h5a.lt)
  have h6b := hoth _ _ _ (by have := h6.lt; omega) (h6.on hw h6.lt)
  have hbE := hbel _ _ (by have := hbD.size; omega) (below_then hbD hw)
  have HA4 : Hid (ArgAt V2 a len V2.heap.size) := HA3.out.behind (hbel _ _ hgn hw)
  clear hoth hbel hnew hgn h3a h4a h5a h6 hbD hw HA3
  go_wp2_with fail
  refine (places_any len cap a hm1 _ HA4.out).mono ?_
  rintro e w3 ⟨gp, cpp, xs, rfl, hgp, _, hxs, hb3⟩
  obtain ⟨x0, hx0⟩ : ∃ x0, x0 = xs 0 := ⟨_, rfl⟩
  have c0 := hxs 0 (by omega)
  rw [← hx0] at c0
  obtain ⟨b0, c0⟩ := c0
  have h3c := h3b.on hb3 h3b.lt
  have h4c := h4b.on hb3 h4b.lt
  have h5c := h5b.on hb3 h5b.lt
  have h6c := h6b.on hb3 h6b.lt
  have h7c := h7.on hb3 h7.lt
  have hbF := below_then hbE hb3
  have HA5 : Hid (ArgAt w3 a len w3.heap.size) := HA4.out.behind hb3
  obtain ⟨k, hk⟩ : ∃ k : Nat, k = x0 % 40 := ⟨_, rfl⟩
  have hk40 : k < 40 := by omega
  have hkm : Int.tmod (x0 : Int) 40 = (k : Int) := by rw [Int.tmod_eq_emod_of_nonneg (by omega)]; omega
  clear hxs hx0 h3b h4b h5b h6b h7 hbE hb3 HA4 hk
  have HPk : Hid (∀ w, Calls Try.prog 14 #[tv p, .int .i64 (k : Int)] w fun e w' => e = .returned (tv (tp p (k : Int))) ∧ Below w.heap.size w w') := iPow2_any p _ (by omega)
  have HP3 : Hid (∀ w, Calls Try.prog 14 #[tv p, .int .i64 3] w fun e w' => e = .returned (tv (tp p 3)) ∧ Below w.heap.size w w') := iPow2_any p 3 (by omega)
  have HPm : Hid (∀ w, Calls Try.prog 10 #[tv (tp p (k : Int)), tv (tp p 3)] w fun e w' => e = .returned (tv (tp p ((k : Int) + 3))) ∧ Below w.heap.size w w') := by rw [← HPP.out k]; exact iMul2_any _ _
  have HPs : Hid (∀ w, Calls Try.prog 14 #[tv p, .int .i64 ((k : Int) + 3)] w fun e w' => e = .returned (tv (tp p ((k : Int) + 3))) ∧ Below w.heap.size w w') := iPow2_any p _ (by omega)
  generalize tp p ((k : Int) + 3) = C at HPm HPs
  generalize tp p (k : Int) = A at HPk HPm
  generalize tp p 3 = B at HP3 HPm
  clear HPP
  go_wp2
  clear c0 hkm
  refine wp_region_made 6 mixes (by kernel_rfl) rfl rfl (fun a w => by go_simp <;> rfl) ?_
  simp only [List.take_succ_cons, List.take_zero, List.drop_succ_cons, List.drop_zero]
  repeat (refine bel_step rfl (fun K hK => ⟨_, (fun w' hw => by have q0 := (h3c.on hw h3c.lt).cell 0; have q1 := (h3c.on hw h3c.lt).cell 1; go_simp; exact rfl), ?_⟩); go_simp; refine hK _ ?_; clear hK K)
  refine bel_call rfl (fun K hK => ⟨_, _, _, (fun w' => by go_simp <;> first | exact rfl | exact ⟨rfl, rfl⟩), (fun w' hw => HPk.out _), ?_⟩); go_simp; refine hK _ ?_; clear hK K
  repeat (refine bel_step rfl (fun K hK => ⟨_, (fun w' hw => by have q0 := (h3c.on hw h3c.lt).cell 0; have q1 := (h3c.on hw h3c.lt).cell 1; go_simp; exact rfl), ?_⟩); go_simp; refine hK _ ?_; clear hK K)
  refine bel_call rfl (fun K hK => ⟨_, _, _, (fun w' => by go_simp <;> first | exact rfl | exact ⟨rfl, rfl⟩), (fun w' hw => HP3.out _), ?_⟩); go_simp; refine hK _ ?_; clear hK K
  refine bel_call rfl (fun K hK => ⟨_, _, _, (fun w' => by go_simp <;> first | exact rfl | exact ⟨rfl, rfl⟩), (fun w' hw => HPm.out _), ?_⟩); go_simp; refine hK _ ?_; clear hK K
  refine bel_nil ?_
  intro gn w' hw hgn hnew
  refine frame_out fun K hK => ?_
  go_simp
  refine hK _ ?_
  clear hK K

  refine store_blk (cs' := #[.int .i64 C.1, .int .i64 C.2]) rfl rfl rfl rfl rfl hnew infoT rfl (ones2 _ _) ?_
  intro V3 h9 hoth hbel
  have h3d := hoth _ _ _ (by have := h3c.lt; omega) (h3c.on hw h3c.lt)
  have h4d := hoth _ _ _ (by have := h4c.lt; omega) (h4c.on hw h4c.lt)
  have h5d := hoth _ _ _ (by have := h5c.lt; omega) (h5c.on hw h5c.lt)
  have h6d := hoth _ _ _ (by have := h6c.lt; omega) (h6c.on hw h6c.lt)
  have h7d := hoth _ _ _ (by have := h7c.lt; omega) (h7c.on hw h7c.lt)
  have hbG := hbel _ _ (by have := hbF.size; omega) (below_then hbF hw)
  have HA6 : Hid (ArgAt V3 a len V3.heap.size) := HA5.out.behind (hbel _ _ hgn hw)
  clear hoth hbel hnew hgn h3c h4c h5c h6c h7c hbF hw HA5 HPk HP3 HPm HT HN HV HI HM1
  go_wp2_with fail
  refine (drawTwoPow_any len cap a hm1 _ HA6.out).mono ?_
  rintro e w5 ⟨c, m, rfl, hm2, hb5⟩
  have HQ1 : Hid (∀ w, Calls Try.prog 14 #[tv c, .int .i64 m] w fun e w' => e = .returned (tv (tp c m)) ∧ Below w.heap.size w w') := iPow2_any c m hm2.2
  have HQ2 : Hid (∀ w, Calls Try.prog 16 #[tv c, .int .i64 m] w fun e w' => e = .returned (tv (tp c m)) ∧ Below w.heap.size w w') := sPow2_any c m hm2.2
  generalize tp c m = D at HQ1 HQ2
  have hbH := below_then hbG hb5
  have h3e := h3d.on hb5 h3d.lt
  have h4e := h4d.on hb5 h4d.lt
  have h5e := h5d.on hb5 h5d.lt
  have h6e := h6d.on hb5 h6d.lt
  have h7e := h7d.on hb5 h7d.lt
  have h9e := h9.on hb5 h9.lt
  clear hb5 hbG h3d h4d h5d h6d h7d h9 HA6 hm2
  obtain ⟨V5, hV5, hbV5, h10⟩ := box1 w5 25 #[.int .i64 c.1, .int .i64 c.2]
  have h3f := h3e.on hbV5 h3e.lt
  have h4f := h4e.on hbV5 h4e.lt
  have h5f := h5e.on hbV5 h5e.lt
  have h6f := h6e.on hbV5 h6e.lt
  have h7f := h7e.on hbV5 h7e.lt
  have h9f := h9e.on hbV5 h9e.lt
  have hbI := below_then hbH hbV5
  clear h3e h4e h5e h6e h7e h9e hbV5 hbH
  go_wp2
  clear hV5
  have hn1 : (nm == 0) = false := by simpa using hn0
  have hn2 : (nm != 0) = true := by simpa using hn0
  have hks : IntKind.i64.wrap ((k : Int) + 3) = (k : Int) + 3 := IntWalk.i64_in _ (by omega)
  refine wp_region_class 50 (fun wz => Below V5.heap.size V5 wz) mixes (by kernel_rfl) (Below.refl _ _).drew ?_
  simp only [List.take_succ_cons, List.take_zero, List.drop_succ_cons, List.drop_zero]
  repeat (refine cls_stepG rfl (fun K hK => ⟨_, (fun w' hw => by have q0 := (h5f.on hw h5f.lt).cell 0; have q1 := (h5f.on hw h5f.lt).cell 1; have q2 := (h4f.on hw h4f.lt).cell 0; have q3 := (h4f.on hw h4f.lt).cell 1; have q4 := (h3f.on hw h3f.lt).cell 0; have q5 := (h3f.on hw h3f.lt).cell 1; go_simp; exact rfl), ?_⟩); go_simp; refine hK _ ?_; clear hK K)
  refine cls_callG rfl (fun K hK => ⟨_, _, _, (fun w' => by go_simp <;> first | exact rfl | exact ⟨rfl, rfl⟩), (fun w' hw => calls_below hw (HM2.out _)), ?_⟩); go_simp; refine hK _ ?_; clear hK K
  repeat (refine cls_stepG rfl (fun K hK => ⟨_, (fun w' hw => by have q0 := (h6f.on hw h6f.lt).cell 0; have q1 := (h6f.on hw h6f.lt).cell 1; have q2 := (h7f.on hw h7f.lt).cell 0; have q3 := (h7f.on hw h7f.lt).cell 1; have q4 := (h9f.on hw h9f.lt).cell 0; have q5 := (h9f.on hw h9f.lt).cell 1; have q6 := (h3f.on hw h3f.lt).cell 0; have q7 := (h3f.on hw h3f.lt).cell 1; go_simp; exact rfl), ?_⟩); go_simp; refine hK _ ?_; clear hK K)
  refine cls_callG rfl (fun K hK => ⟨_, _, _, (fun w' => by go_simp <;> first | exact rfl | exact ⟨rfl, rfl⟩), (fun w' hw => calls_below hw (HPs.out _)), ?_⟩); go_simp; refine hK _ ?_; clear hK K
  repeat (refine cls_stepG rfl (fun K hK => ⟨_, (fun w' hw => by have q0 := (h10.on hw h10.lt).cell 0; have q1 := (h10.on hw h10.lt).cell 1; go_simp; exact rfl), ?_⟩); go_simp; refine hK _ ?_; clear hK K)
  refine cls_callG rfl (fun K hK => ⟨_, _, _, (fun w' => by go_simp <;> first | exact rfl | exact ⟨rfl, rfl⟩), (fun w' hw => calls_below hw (HQ1.out _)), ?_⟩); go_simp; refine hK _ ?_; clear hK K
  repeat (refine cls_stepG rfl (fun K hK => ⟨_, (fun w' hw => by have q0 := (h10.on hw h10.lt).cell 0; have q1 := (h10.on hw h10.lt).cell 1; go_simp; exact rfl), ?_⟩); go_simp; refine hK _ ?_; clear hK K)
  refine cls_callG rfl (fun K hK => ⟨_, _, _, (fun w' => by go_simp <;> first | exact rfl | exact ⟨rfl, rfl⟩), (fun w' hw => calls_below hw (HQ2.out _)), ?_⟩); go_simp; refine hK _ ?_; clear hK K
  repeat (refine cls_stepG rfl (fun K hK => ⟨_, (fun w' hw => by have q0 := (h3f.on hw h3f.lt).cell 0; have q1 := (h3f.on hw h3f.lt).cell 1; have q2 := (h4f.on hw h4f.lt).cell 0; have q3 := (h4f.on hw h4f.lt).cell 1; go_simp; exact rfl), ?_⟩); go_simp; refine hK _ ?_; clear hK K)
  refine cls_callG rfl (fun K hK => ⟨_, _, _, (fun w' => by go_simp <;> first | exact rfl | exact ⟨rfl, rfl⟩), (fun w' hw => calls_below hw (HE1.out _)), ?_⟩); go_simp; refine hK _ ?_; clear hK K
  repeat (refine cls_stepG rfl (fun K hK => ⟨_, (fun w' hw => by have q0 := (h3f.on hw h3f.lt).cell 0; have q1 := (h3f.on hw h3f.lt).cell 1; have q2 := (h4f.on hw h4f.lt).cell 0; have q3 := (h4f.on hw h4f.lt).cell 1; go_simp; exact rfl), ?_⟩); go_simp; refine hK _ ?_; clear hK K)
  refine cls_callG rfl (fun K hK => ⟨_, _, _, (fun w' => by go_simp <;> first | exact rfl | exact ⟨rfl, rfl⟩), (fun w' hw => calls_below hw (HE2.out _)), ?_⟩); go_simp; refine hK _ ?_; clear hK K
  repeat (refine cls_stepG rfl (fun K hK => ⟨_, (fun w' hw => by have q0 := (h5f.on hw h5f.lt).cell 0; have q1 := (h5f.on hw h5f.lt).cell 1; go_simp; exact rfl), ?_⟩); go_simp; refine hK _ ?_; clear hK K)
  refine cls_callG rfl (fun K hK => ⟨_, _, _, (fun w' => by go_simp <;> first | exact rfl | exact ⟨rfl, rfl⟩), (fun w' hw => calls_below hw (HO.out _)), ?_⟩); go_simp; refine hK _ ?_; clear hK K
  repeat (refine cls_stepG rfl (fun K hK => ⟨_, (fun w' hw => by go_simp; exact rfl), ?_⟩); go_simp; refine hK _ ?_; clear hK K)
  refine wpQuiet_nil ?_
  intro w' hw

  have hbJ := below_then hbI hw
  clear h3f h4f h5f h6f h7f h9f h10 hbI hw
  go_wp2
  go_ret
  exact ⟨rfl, hbJ⟩

end Go.Proofs.Ytolmcmoimbennaa
