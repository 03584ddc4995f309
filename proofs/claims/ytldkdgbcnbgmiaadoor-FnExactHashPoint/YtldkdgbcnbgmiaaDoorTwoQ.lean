/-
  The walks of the program's inverse two by two, and of its outer functions.
  (-DROP-: what the seat lacks is left out.)
-/
import Derived.Test.YtldkdgbcnbgmiaaDoorJoined47
namespace Go.Proofs.YtldkdgbcnbgmiaaDoor
open Go.RowKit

theorem in2_tt {x : Int × Int} (h : In2 x) : In2 (tt x) := ⟨h.1, fp_nonneg _, fp_lt _⟩
theorem in2_tn (x : Int × Int) : In2 (tn x, 0) := ⟨fpPow_bounds (x.1 * x.1 + x.2 * x.2) 12105, Int.le_refl 0, Int.lt_of_le_of_lt (Int.le_refl 0) (by decide : (0 : Int) < 12107)⟩
theorem ti_by (x : Int × Int) : tm (tt x) (tn x, 0) = ti x := by
  unfold tm ti
  rw [show tt x = (x.1, fp (0 - x.2)) from rfl]
  generalize tn x = n
  obtain ⟨k, hk⟩ := fp_rep (0 - x.2)
  unfold fp2 gm
  ext
  · simp
  · simp only [hk]
    exact fp_to (k * n) (by grind)

set_option maxHeartbeats 800000 in
set_option maxRecDepth 100000 in
theorem inverse2_zero (w : World) :
    Calls Tryd.prog 74 #[tv (0, 0)] w fun e w' => e = .returned (tv (0, 0)) ∧ Below w.heap.size w w' := by
  go_enter Tryd.func74, Tryd.ntmps74
  go_wp2
  refine bodyPost_ret_by (result_blk rfl rfl (Blk.newAt (by simp)) Tryd.underlying69 infoN) rfl ⟨rfl, ((Below.refl _ _).alloc (Nat.le_refl _) _).alloc (by simp) _⟩

set_option maxHeartbeats 800000 in
set_option maxRecDepth 100000 in
theorem inverse2_a (a b : Int) (hx2 : In2 (a, b)) (h0 : ¬ a = 0) (w : World) :
    Calls Tryd.prog 74 #[tv (a, b)] w fun e w' => e = .returned (tv (ti (a, b))) ∧ Below w.heap.size w w' := by
  have HT : Hid (∀ w, Calls Tryd.prog 72 #[tv (a, b)] w fun e w' => e = .returned (tv (tt (a, b))) ∧ Below w.heap.size w w') := turned_any _ hx2
  have HM : Hid (∀ w, Calls Tryd.prog 73 #[tv (a, b), tv (tt (a, b))] w fun e w' => e = .returned (tv (fp (a * a + b * b), 0)) ∧ Below w.heap.size w w') := by
    have h := times2_any (a, b) (tt (a, b)) hx2 (in2_tt hx2)
    rw [tm_turned] at h
    exact h
  have HI : Hid (∀ w, Calls Tryd.prog 85 #[.int .i64 (fp (a * a + b * b))] w fun e w' => e = .returned (.int .i64 (tn (a, b))) ∧ w = w') := by
    have h := inverse_any (fp (a * a + b * b)) (fp_nonneg _) (fp_lt _)
    rw [fpPow_fp0] at h
    exact h
  have HN : Hid (∀ w, Calls Tryd.prog 73 #[tv (tt (a, b)), tv (tn (a, b), 0)] w fun e w' => e = .returned (tv (ti (a, b))) ∧ Below w.heap.size w w') := by
    have h := times2_any (tt (a, b)) (tn (a, b), 0) (in2_tt hx2) (in2_tn _)
    rw [ti_by] at h
    exact h
  generalize fp (a * a + b * b) = q at HM HI
  generalize tt (a, b) = u at HT HM HN
  generalize tn (a, b) = m at HI HN
  generalize ti (a, b) = v at HN ⊢
  clear hx2
  go_enter Tryd.func74, Tryd.ntmps74
  go_wp2
  obtain ⟨W, hW, hb, hx, hr⟩ := boxes1r w 69 69 #[.int .i64 a, .int .i64 b] #[.int .i64 0, .int .i64 0]
  rw [hW]
  clear hW
  refine wp_region_made 4 mixes (by kernel_rfl) rfl rfl (fun a w => by go_simp <;> rfl) ?_
  simp only [List.take_succ_cons, List.take_zero, List.drop_succ_cons, List.drop_zero]
  repeat (refine bel_step rfl (fun K hK => ⟨_, (fun w' hw => by have q0 := (hx.on hw hx.lt).cell 0; have q1 := (hx.on hw hx.lt).cell 1; go_simp; exact rfl), ?_⟩); go_simp; refine hK _ ?_; clear hK K)
  refine bel_call rfl (fun K hK => ⟨_, _, _, (fun w' => by go_simp <;> first | exact rfl | exact ⟨rfl, rfl⟩), (fun w' hw => HT.out _), ?_⟩); go_simp; refine hK _ ?_; clear hK K
  refine bel_call rfl (fun K hK => ⟨_, _, _, (fun w' => by go_simp <;> first | exact rfl | exact ⟨rfl, rfl⟩), (fun w' hw => HM.out _), ?_⟩); go_simp; refine hK _ ?_; clear hK K
  refine bel_nil ?_
  intro gn w' hw hgn hnew
  refine frame_out fun K hK => ?_
  go_simp
  refine hK _ ?_
  clear hK K
  go_wp2_with (refine store_blk (cs' := #[.int .i64 q, .int .i64 0]) rfl rfl rfl rfl rfl hnew infoN rfl (ones2 _ _) ?_; intro V hd hoth hbel)
  have hxV := hoth _ _ _ (by have := hx.lt; omega) (hx.on hw hx.lt)
  have hrV := hoth _ _ _ (by have := hr.lt; omega) (hr.on hw hr.lt)
  have hbb := hbel _ _ (by have := hx.lt; omega) (below_then hb hw)
  clear hoth hbel hnew hgn
  clear hx hr hb hw
  refine wp_region_class 7 (fun wz => Below V.heap.size V wz) mixes (by kernel_rfl) (Below.refl _ _).drew ?_
  simp only [List.take_succ_cons, List.take_zero, List.drop_succ_cons, List.drop_zero]
  repeat (refine cls_step rfl (fun K hK => ⟨_, (fun w' hw => by have q0 := (hxV.on hw hxV.lt).cell 0; have q1 := (hxV.on hw hxV.lt).cell 1; have q2 := (hd.on hw hd.lt).cell 0; have q3 := (hd.on hw hd.lt).cell 1; go_simp; exact rfl), ?_⟩); go_simp; refine hK _ ?_; clear hK K)
  refine cls_call rfl (fun K hK => ⟨_, _, _, (fun w' => by go_simp <;> first | exact rfl | exact ⟨rfl, rfl⟩), (fun w' hw => calls_below hw (HT.out _)), ?_⟩); go_simp; refine hK _ ?_; clear hK K
  repeat (refine cls_step rfl (fun K hK => ⟨_, (fun w' hw => by have q0 := (hxV.on hw hxV.lt).cell 0; have q1 := (hxV.on hw hxV.lt).cell 1; have q2 := (hd.on hw hd.lt).cell 0; have q3 := (hd.on hw hd.lt).cell 1; go_simp; exact rfl), ?_⟩); go_simp; refine hK _ ?_; clear hK K)
  refine cls_call rfl (fun K hK => ⟨_, _, _, (fun w' => by go_simp <;> first | exact rfl | exact ⟨rfl, rfl⟩), (fun w' hw => calls_same hw (HI.out _)), ?_⟩); go_simp; refine hK _ ?_; clear hK K
  repeat (refine cls_step rfl (fun K hK => ⟨_, (fun w' hw => by have q0 := (hxV.on hw hxV.lt).cell 0; have q1 := (hxV.on hw hxV.lt).cell 1; have q2 := (hd.on hw hd.lt).cell 0; have q3 := (hd.on hw hd.lt).cell 1; go_simp; exact rfl), ?_⟩); go_simp; refine hK _ ?_; clear hK K)
  refine cls_call rfl (fun K hK => ⟨_, _, _, (fun w' => by go_simp <;> first | exact rfl | exact ⟨rfl, rfl⟩), (fun w' hw => calls_below hw (HN.out _)), ?_⟩); go_simp; refine hK _ ?_; clear hK K
  refine wq_nil ?_
  intro w' hw
  have q0 := (hrV.on hw hrV.lt).cell 0
  have r0 := (hrV.on hw hrV.lt).free 0
  have q1 := (hrV.on hw hrV.lt).cell 1
  have r1 := (hrV.on hw hrV.lt).free 1
  go_wp2
  refine bodyPost_ret_by (result_blk rfl rfl (((hrV.on hw hrV.lt).set 0 _).set 1 _) Tryd.underlying69 infoN) rfl ⟨rfl, ((below_then hbb hw).setCell (by simp) _).setCell (by simp) _⟩

set_option maxHeartbeats 800000 in
set_option maxRecDepth 100000 in
theorem inverse2_b (b : Int) (hx2 : In2 (0, b)) (h0 : ¬ b = 0) (w : World) :
    Calls Tryd.prog 74 #[tv (0, b)] w fun e w' => e = .returned (tv (ti (0, b))) ∧ Below w.heap.size w w' := by
  have HT : Hid (∀ w, Calls Tryd.prog 72 #[tv (0, b)] w fun e w' => e = .returned (tv (tt (0, b))) ∧ Below w.heap.size w w') := turned_any _ hx2
  have HM : Hid (∀ w, Calls Tryd.prog 73 #[tv (0, b), tv (tt (0, b))] w fun e w' => e = .returned (tv (fp (0 * 0 + b * b), 0)) ∧ Below w.heap.size w w') := by
    have h := times2_any (0, b) (tt (0, b)) hx2 (in2_tt hx2)
    rw [tm_turned] at h
    exact h
  have HI : Hid (∀ w, Calls Tryd.prog 85 #[.int .i64 (fp (0 * 0 + b * b))] w fun e w' => e = .returned (.int .i64 (tn (0, b))) ∧ w = w') := by
    have h := inverse_any (fp (0 * 0 + b * b)) (fp_nonneg _) (fp_lt _)
    rw [fpPow_fp0] at h
    exact h
  have HN : Hid (∀ w, Calls Tryd.prog 73 #[tv (tt (0, b)), tv (tn (0, b), 0)] w fun e w' => e = .returned (tv (ti (0, b))) ∧ Below w.heap.size w w') := by
    have h := times2_any (tt (0, b)) (tn (0, b), 0) (in2_tt hx2) (in2_tn _)
    rw [ti_by] at h
    exact h
  generalize fp (0 * 0 + b * b) = q at HM HI
  generalize tt (0, b) = u at HT HM HN
  generalize tn (0, b) = m at HI HN
  generalize ti (0, b) = v at HN ⊢
  clear hx2
  go_enter Tryd.func74, Tryd.ntmps74
  go_wp2
  obtain ⟨W, hW, hb, hx, hr⟩ := boxes1r w 69 69 #[.int .i64 0, .int .i64 b] #[.int .i64 0, .int .i64 0]
  rw [hW]
  clear hW
  refine wp_region_made 4 mixes (by kernel_rfl) rfl rfl (fun a w => by go_simp <;> rfl) ?_
  simp only [List.take_succ_cons, List.take_zero, List.drop_succ_cons, List.drop_zero]
  repeat (refine bel_step rfl (fun K hK => ⟨_, (fun w' hw => by have q0 := (hx.on hw hx.lt).cell 0; have q1 := (hx.on hw hx.lt).cell 1; go_simp; exact rfl), ?_⟩); go_simp; refine hK _ ?_; clear hK K)
  refine bel_call rfl (fun K hK => ⟨_, _, _, (fun w' => by go_simp <;> first | exact rfl | exact ⟨rfl, rfl⟩), (fun w' hw => HT.out _), ?_⟩); go_simp; refine hK _ ?_; clear hK K
  refine bel_call rfl (fun K hK => ⟨_, _, _, (fun w' => by go_simp <;> first | exact rfl | exact ⟨rfl, rfl⟩), (fun w' hw => HM.out _), ?_⟩); go_simp; refine hK _ ?_; clear hK K
  refine bel_nil ?_
  intro gn w' hw hgn hnew
  refine frame_out fun K hK => ?_
  go_simp
  refine hK _ ?_
  clear hK K
  go_wp2_with (refine store_blk (cs' := #[.int .i64 q, .int .i64 0]) rfl rfl rfl rfl rfl hnew infoN rfl (ones2 _ _) ?_; intro V hd hoth hbel)
  have hxV := hoth _ _ _ (by have := hx.lt; omega) (hx.on hw hx.lt)
  have hrV := hoth _ _ _ (by have := hr.lt; omega) (hr.on hw hr.lt)
  have hbb := hbel _ _ (by have := hx.lt; omega) (below_then hb hw)
  clear hoth hbel hnew hgn
  clear hx hr hb hw
  refine wp_region_class 7 (fun wz => Below V.heap.size V wz) mixes (by kernel_rfl) (Below.refl _ _).drew ?_
  simp only [List.take_succ_cons, List.take_zero, List.drop_succ_cons, List.drop_zero]
  repeat (refine cls_step rfl (fun K hK => ⟨_, (fun w' hw => by have q0 := (hxV.on hw hxV.lt).cell 0; have q1 := (hxV.on hw hxV.lt).cell 1; have q2 := (hd.on hw hd.lt).cell 0; have q3 := (hd.on hw hd.lt).cell 1; go_simp; exact rfl), ?_⟩); go_simp; refine hK _ ?_; clear hK K)
  refine cls_call rfl (fun K hK => ⟨_, _, _, (fun w' => by go_simp <;> first | exact rfl | exact ⟨rfl, rfl⟩), (fun w' hw => calls_below hw (HT.out _)), ?_⟩); go_simp; refine hK _ ?_; clear hK K
  repeat (refine cls_step rfl (fun K hK => ⟨_, (fun w' hw => by have q0 := (hxV.on hw hxV.lt).cell 0; have q1 := (hxV.on hw hxV.lt).cell 1; have q2 := (hd.on hw hd.lt).cell 0; have q3 := (hd.on hw hd.lt).cell 1; go_simp; exact rfl), ?_⟩); go_simp; refine hK _ ?_; clear hK K)
  refine cls_call rfl (fun K hK => ⟨_, _, _, (fun w' => by go_simp <;> first | exact rfl | exact ⟨rfl, rfl⟩), (fun w' hw => calls_same hw (HI.out _)), ?_⟩); go_simp; refine hK _ ?_; clear hK K
  repeat (refine cls_step rfl (fun K hK => ⟨_, (fun w' hw => by have q0 := (hxV.on hw hxV.lt).cell 0; have q1 := (hxV.on hw hxV.lt).cell 1; have q2 := (hd.on hw hd.lt).cell 0; have q3 := (hd.on hw hd.lt).cell 1; go_simp; exact rfl), ?_⟩); go_simp; refine hK _ ?_; clear hK K)
  refine cls_call rfl (fun K hK => ⟨_, _, _, (fun w' => by go_simp <;> first | exact rfl | exact ⟨rfl, rfl⟩), (fun w' hw => calls_below hw (HN.out _)), ?_⟩); go_simp; refine hK _ ?_; clear hK K
  refine wq_nil ?_
  intro w' hw
  have q0 := (hrV.on hw hrV.lt).cell 0
  have r0 := (hrV.on hw hrV.lt).free 0
  have q1 := (hrV.on hw hrV.lt).cell 1
  have r1 := (hrV.on hw hrV.lt).free 1
  go_wp2
  refine bodyPost_ret_by (result_blk rfl rfl (((hrV.on hw hrV.lt).set 0 _).set 1 _) Tryd.underlying69 infoN) rfl ⟨rfl, ((below_then hbb hw).setCell (by simp) _).setCell (by simp) _⟩

theorem inverse2_any (x : Int × Int) (hx2 : In2 x) (w : World) :
    Calls Tryd.prog 74 #[tv x] w fun e w' => e = .returned (tv (ti x)) ∧ Below w.heap.size w w' := by
  obtain ⟨a, b⟩ := x
  by_cases ha : a = 0
  · subst ha
    by_cases hb : b = 0
    · subst hb
      rw [show ti (0, 0) = (0, 0) by unfold ti fp2; simp; rfl]
      exact inverse2_zero w
    · exact inverse2_b b hx2 hb w
  · exact inverse2_a a b hx2 ha w

end Go.Proofs.YtldkdgbcnbgmiaaDoor
