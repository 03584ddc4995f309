/-
  The walks of the specification's numbers two by two.
  (-DROP-: what the seat lacks is left out.)
-/
import Derived.Test.YtckhbflolccinaaFieldS
import Derived.Test.YtckhbflolccinaaJoined18
namespace Go.Proofs.Ytckhbflolccinaa
open Go.RowKit

set_option maxHeartbeats 800000 in
set_option maxRecDepth 100000 in
theorem sMul2_any (x y : Int × Int) (w : World) :
    Calls Try.prog 50 #[tv x, tv y] w fun e w' => e = .returned (tv (tm x y)) ∧ Below w.heap.size w w' := by
  obtain ⟨a, b⟩ := x
  obtain ⟨c, d⟩ := y
  rw [show tm (a, b) (c, d) = (fpSub (fpMul a c) (fpMul b d), fpAdd (fpMul a d) (fpMul b c)) by
    rw [fpSub_eq, fpAdd_eq, fpMul_eq, fpMul_eq, fpMul_eq, fpMul_eq, fp_sub_fp, fp_add_fp]; rfl]
  go_enter Try.func50, Try.ntmps50
  go_wp2
  obtain ⟨W, hW, hb, hx, hy, hr⟩ := boxes2r w 31 31 31 #[.int .i64 a, .int .i64 b] #[.int .i64 c, .int .i64 d] #[.int .i64 0, .int .i64 0]
  rw [hW]
  clear hW
  refine wp_region_class 23 (fun wz => Below W.heap.size W wz) mixes (by kernel_rfl) (Below.refl _ _).drew ?_
  simp only [List.take_succ_cons, List.take_zero, List.drop_succ_cons, List.drop_zero]
  repeat (refine cls_step rfl (fun K hK => ⟨_, (fun w' hw => by have q0 := (hx.on hw hx.lt).cell 0; have q1 := (hx.on hw hx.lt).cell 1; have q2 := (hy.on hw hy.lt).cell 0; have q3 := (hy.on hw hy.lt).cell 1; go_simp; exact rfl), ?_⟩); go_simp; refine hK _ ?_; clear hK K)
  refine cls_call rfl (fun K hK => ⟨_, _, _, (fun w' => by go_simp <;> first | exact rfl | exact ⟨rfl, rfl⟩), (fun w' hw => calls_same hw (sMul_any _ _ _)), ?_⟩); go_simp; refine hK _ ?_; clear hK K
  repeat (refine cls_step rfl (fun K hK => ⟨_, (fun w' hw => by have q0 := (hx.on hw hx.lt).cell 0; have q1 := (hx.on hw hx.lt).cell 1; have q2 := (hy.on hw hy.lt).cell 0; have q3 := (hy.on hw hy.lt).cell 1; go_simp; exact rfl), ?_⟩); go_simp; refine hK _ ?_; clear hK K)
  refine cls_call rfl (fun K hK => ⟨_, _, _, (fun w' => by go_simp <;> first | exact rfl | exact ⟨rfl, rfl⟩), (fun w' hw => calls_same hw (sMul_any _ _ _)), ?_⟩); go_simp; refine hK _ ?_; clear hK K
  refine cls_call rfl (fun K hK => ⟨_, _, _, (fun w' => by go_simp <;> first | exact rfl | exact ⟨rfl, rfl⟩), (fun w' hw => calls_same hw (sSub_any _ _ _)), ?_⟩); go_simp; refine hK _ ?_; clear hK K
  repeat (refine cls_step rfl (fun K hK => ⟨_, (fun w' hw => by have q0 := (hx.on hw hx.lt).cell 0; have q1 := (hx.on hw hx.lt).cell 1; have q2 := (hy.on hw hy.lt).cell 0; have q3 := (hy.on hw hy.lt).cell 1; go_simp; exact rfl), ?_⟩); go_simp; refine hK _ ?_; clear hK K)
  refine cls_call rfl (fun K hK => ⟨_, _, _, (fun w' => by go_simp <;> first | exact rfl | exact ⟨rfl, rfl⟩), (fun w' hw => calls_same hw (sMul_any _ _ _)), ?_⟩); go_simp; refine hK _ ?_; clear hK K
  repeat (refine cls_step rfl (fun K hK => ⟨_, (fun w' hw => by have q0 := (hx.on hw hx.lt).cell 0; have q1 := (hx.on hw hx.lt).cell 1; have q2 := (hy.on hw hy.lt).cell 0; have q3 := (hy.on hw hy.lt).cell 1; go_simp; exact rfl), ?_⟩); go_simp; refine hK _ ?_; clear hK K)
  refine cls_call rfl (fun K hK => ⟨_, _, _, (fun w' => by go_simp <;> first | exact rfl | exact ⟨rfl, rfl⟩), (fun w' hw => calls_same hw (sMul_any _ _ _)), ?_⟩); go_simp; refine hK _ ?_; clear hK K
  refine cls_call rfl (fun K hK => ⟨_, _, _, (fun w' => by go_simp <;> first | exact rfl | exact ⟨rfl, rfl⟩), (fun w' hw => calls_same hw (sAdd_any _ _ _)), ?_⟩); go_simp; refine hK _ ?_; clear hK K
  repeat (refine cls_step rfl (fun K hK => ⟨_, (fun w' hw => by go_simp; exact rfl), ?_⟩); go_simp; refine hK _ ?_; clear hK K)
  refine wq_nil ?_
  intro w' hw
  have q0 := (hr.on hw hr.lt).cell 0
  have r0 := (hr.on hw hr.lt).free 0
  have q1 := (hr.on hw hr.lt).cell 1
  have r1 := (hr.on hw hr.lt).free 1
  go_wp2
  refine bodyPost_ret_by (result_blk rfl rfl (((hr.on hw hr.lt).set 0 _).set 1 _) Try.underlying31 infoT) rfl ⟨rfl, ((hb.trans (hw.mono hb.size)).setCell (by simp; omega) _).setCell (by simp; omega) _⟩

set_option maxHeartbeats 800000 in
set_option maxRecDepth 100000 in
theorem sInv2_any (x : Int × Int) (w : World) :
    Calls Try.prog 52 #[tv x] w fun e w' => e = .returned (tv (ti x)) ∧ Below w.heap.size w w' := by
  obtain ⟨a, b⟩ := x
  have hn : fpPow (fpAdd (fpMul a a) (fpMul b b)) 12105 = tn (a, b) := by
    rw [fpAdd_eq, fpMul_eq, fpMul_eq, fp_add_fp, fpPow_fp0]; rfl
  have HI : Hid (∀ w, Calls Try.prog 81 #[.int .i64 (fpAdd (fpMul a a) (fpMul b b))] w fun e w' => e = .returned (.int .i64 (tn (a, b))) ∧ w = w') := by
    rw [← hn]; exact sInv_any _
  have HN : Hid (∀ w, Calls Try.prog 62 #[.int .i64 (fpSub 0 b), .int .i64 (tn (a, b))] w fun e w' => e = .returned (.int .i64 (ti (a, b)).2) ∧ w = w') := by
    have h := sMul_any (fpSub 0 b) (tn (a, b))
    rw [show fpMul (fpSub 0 b) (tn (a, b)) = (ti (a, b)).2 by rw [fpMul_eq, fpSub_eq, fp_mul_left]; rfl] at h
    exact h
  have HM : Hid (∀ w, Calls Try.prog 62 #[.int .i64 a, .int .i64 (tn (a, b))] w fun e w' => e = .returned (.int .i64 (ti (a, b)).1) ∧ w = w') := by
    have h := sMul_any a (tn (a, b))
    rw [show fpMul a (tn (a, b)) = (ti (a, b)).1 by rw [fpMul_eq]; rfl] at h
    exact h
  clear hn
  generalize tn (a, b) = n at HI HN HM
  generalize ti (a, b) = v at HN HM ⊢
  go_enter Try.func52, Try.ntmps52
  go_wp2
  obtain ⟨W, hW, hb, hx, hr⟩ := boxes1r w 31 31 #[.int .i64 a, .int .i64 b] #[.int .i64 0, .int .i64 0]
  rw [hW]
  clear hW
  refine wp_region_class 12 (fun wz => Below W.heap.size W wz) mixes (by kernel_rfl) (Below.refl _ _).drew ?_
  simp only [List.take_succ_cons, List.take_zero, List.drop_succ_cons, List.drop_zero]
  repeat (refine cls_step rfl (fun K hK => ⟨_, (fun w' hw => by have q0 := (hx.on hw hx.lt).cell 0; have q1 := (hx.on hw hx.lt).cell 1; go_simp; exact rfl), ?_⟩); go_simp; refine hK _ ?_; clear hK K)
  refine cls_call rfl (fun K hK => ⟨_, _, _, (fun w' => by go_simp <;> first | exact rfl | exact ⟨rfl, rfl⟩), (fun w' hw => calls_same hw (sMul_any _ _ _)), ?_⟩); go_simp; refine hK _ ?_; clear hK K
  repeat (refine cls_step rfl (fun K hK => ⟨_, (fun w' hw => by have q0 := (hx.on hw hx.lt).cell 0; have q1 := (hx.on hw hx.lt).cell 1; go_simp; exact rfl), ?_⟩); go_simp; refine hK _ ?_; clear hK K)
  refine cls_call rfl (fun K hK => ⟨_, _, _, (fun w' => by go_simp <;> first | exact rfl | exact ⟨rfl, rfl⟩), (fun w' hw => calls_same hw (sMul_any _ _ _)), ?_⟩); go_simp; refine hK _ ?_; clear hK K
  refine cls_call rfl (fun K hK => ⟨_, _, _, (fun w' => by go_simp <;> first | exact rfl | exact ⟨rfl, rfl⟩), (fun w' hw => calls_same hw (sAdd_any _ _ _)), ?_⟩); go_simp; refine hK _ ?_; clear hK K
  refine cls_call rfl (fun K hK => ⟨_, _, _, (fun w' => by go_simp <;> first | exact rfl | exact ⟨rfl, rfl⟩), (fun w' hw => calls_same hw (HI.out _)), ?_⟩); go_simp; refine hK _ ?_; clear hK K
  refine wq_nil ?_
  intro w' hw
  go_wp2
  have hxV := hx.on hw hx.lt
  have hrV := hr.on hw hr.lt
  have hbb := below_then hb hw
  clear hx hr hb hw
  refine wp_region_class 10 (fun wz => Below w'.heap.size w' wz) mixes (by kernel_rfl) (Below.refl _ _).drew ?_
  simp only [List.take_succ_cons, List.take_zero, List.drop_succ_cons, List.drop_zero]
  repeat (refine cls_step rfl (fun K hK => ⟨_, (fun w' hw => by have q0 := (hxV.on hw hxV.lt).cell 0; have q1 := (hxV.on hw hxV.lt).cell 1; go_simp; exact rfl), ?_⟩); go_simp; refine hK _ ?_; clear hK K)
  refine cls_call rfl (fun K hK => ⟨_, _, _, (fun w' => by go_simp <;> first | exact rfl | exact ⟨rfl, rfl⟩), (fun w' hw => calls_same hw (HM.out _)), ?_⟩); go_simp; refine hK _ ?_; clear hK K
  repeat (refine cls_step rfl (fun K hK => ⟨_, (fun w' hw => by have q0 := (hxV.on hw hxV.lt).cell 0; have q1 := (hxV.on hw hxV.lt).cell 1; go_simp; exact rfl), ?_⟩); go_simp; refine hK _ ?_; clear hK K)
  refine cls_call rfl (fun K hK => ⟨_, _, _, (fun w' => by go_simp <;> first | exact rfl | exact ⟨rfl, rfl⟩), (fun w' hw => calls_same hw (sSub_any _ _ _)), ?_⟩); go_simp; refine hK _ ?_; clear hK K
  repeat (refine cls_step rfl (fun K hK => ⟨_, (fun w' hw => by have q0 := (hxV.on hw hxV.lt).cell 0; have q1 := (hxV.on hw hxV.lt).cell 1; go_simp; exact rfl), ?_⟩); go_simp; refine hK _ ?_; clear hK K)
  refine cls_call rfl (fun K hK => ⟨_, _, _, (fun w' => by go_simp <;> first | exact rfl | exact ⟨rfl, rfl⟩), (fun w' hw => calls_same hw (HN.out _)), ?_⟩); go_simp; refine hK _ ?_; clear hK K
  repeat (refine cls_step rfl (fun K hK => ⟨_, (fun w' hw => by go_simp; exact rfl), ?_⟩); go_simp; refine hK _ ?_; clear hK K)
  refine wq_nil ?_
  intro w' hw
  have q0 := (hrV.on hw hrV.lt).cell 0
  have r0 := (hrV.on hw hrV.lt).free 0
  have q1 := (hrV.on hw hrV.lt).cell 1
  have r1 := (hrV.on hw hrV.lt).free 1
  go_wp2
  refine bodyPost_ret_by (result_blk rfl rfl (((hrV.on hw hrV.lt).set 0 _).set 1 _) Try.underlying31 infoT) rfl ⟨rfl, ((below_then hbb hw).setCell (by simp) _).setCell (by simp) _⟩

end Go.Proofs.Ytckhbflolccinaa
