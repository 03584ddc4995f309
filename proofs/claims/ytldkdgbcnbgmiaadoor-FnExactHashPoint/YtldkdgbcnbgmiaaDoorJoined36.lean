/-
  Texts of one's own, joined.
-/
import Derived.Test.YtldkdgbcnbgmiaaDoorProg
import Derived.Test.YtldkdgbcnbgmiaaDoorJoined18
import Derived.WalkLawsBesides
import Derived.WalkSpells
import Derived.Test.YtldkdgbcnbgmiaaDoorJoined29
import Derived.Test.YtldkdgbcnbgmiaaDoorJoined2
import Derived.Test.YtldkdgbcnbgmiaaDoorJoined32

/-
  The walks of the specification's scalars.
  (-DROP-: what the seat lacks is left out.)
-/
namespace Go.Proofs.YtldkdgbcnbgmiaaDoor
open Go.RowKit

set_option maxHeartbeats 400000 in
set_option maxRecDepth 100000 in
theorem sScOf_any (n : Int) (w : World) :
    Calls Tryd.prog 23 #[.int .i64 n] w fun e w' => e = .returned (.int .i64 (sca n)) ∧ w = w' := by
  have hb := tmod_bounds_sca n
  by_cases h : Int.tmod n 1009 < 0
  · have he := tmod_neg_sca h
    go_enter Tryd.func23, Tryd.ntmps23
    go_wp2
    go_ret
    exact ⟨rfl, rfl⟩
  · have he := tmod_nonneg_sca h
    go_enter Tryd.func23, Tryd.ntmps23
    go_wp2
    go_ret
    exact ⟨rfl, rfl⟩

end Go.Proofs.YtldkdgbcnbgmiaaDoor

/-
  The walks of the program's numbers two by two.
  (-DROP-: what the seat lacks is left out.)
-/
namespace Go.Proofs.YtldkdgbcnbgmiaaDoor
open Go.RowKit

theorem infoN : (Tryd.prog.info? 69).map (·.size) = some 2 := by kernel_rfl
theorem infoT : (Tryd.prog.info? 45).map (·.size) = some 2 := by kernel_rfl

/-- A number of two parts, as a value. -/
abbrev tv (x : Int × Int) : Value := .agg #[.int .i64 x.1, .int .i64 x.2]
theorem ones2 (a b : Int) : (#[Value.int .i64 a, Value.int .i64 b]).all (·.oneCell') = true := by simp [Value.oneCell']
theorem fp_sub_fp (a b : Int) : fp (fp a - fp b) = fp (a - b) := by unfold fp; simp

set_option maxHeartbeats 800000 in
set_option maxRecDepth 100000 in
theorem times2_any (x y : Int × Int) (hx2 : In2 x) (hy2 : In2 y) (w : World) :
    Calls Tryd.prog 73 #[tv x, tv y] w fun e w' => e = .returned (tv (tm x y)) ∧ Below w.heap.size w w' := by
  obtain ⟨a, b⟩ := x
  obtain ⟨c, d⟩ := y
  obtain ⟨⟨a0, a1⟩, b0, b1⟩ := hx2
  obtain ⟨⟨c0, c1⟩, d0, d1⟩ := hy2
  simp only at a0 a1 b0 b1 c0 c1 d0 d1
  have HAC : Hid (∀ w, Calls Tryd.prog 61 #[.int .i64 a, .int .i64 c] w fun e w' => e = .returned (.int .i64 (fp (a * c))) ∧ w = w') := times_any a c a0 a1 c0 c1
  have HBD : Hid (∀ w, Calls Tryd.prog 61 #[.int .i64 b, .int .i64 d] w fun e w' => e = .returned (.int .i64 (fp (b * d))) ∧ w = w') := times_any b d b0 b1 d0 d1
  have HAD : Hid (∀ w, Calls Tryd.prog 61 #[.int .i64 a, .int .i64 d] w fun e w' => e = .returned (.int .i64 (fp (a * d))) ∧ w = w') := times_any a d a0 a1 d0 d1
  have HBC : Hid (∀ w, Calls Tryd.prog 61 #[.int .i64 b, .int .i64 c] w fun e w' => e = .returned (.int .i64 (fp (b * c))) ∧ w = w') := times_any b c b0 b1 c0 c1
  have HM : Hid (∀ w, Calls Tryd.prog 64 #[.int .i64 (fp (a * c)), .int .i64 (fp (b * d))] w fun e w' => e = .returned (.int .i64 (fp (a * c - b * d))) ∧ w = w') := by
    rw [← fp_sub_fp]; exact minus_any _ _ (fp_nonneg _) (fp_lt _) (fp_nonneg _) (fp_lt _)
  have HP : Hid (∀ w, Calls Tryd.prog 62 #[.int .i64 (fp (a * d)), .int .i64 (fp (b * c))] w fun e w' => e = .returned (.int .i64 (fp (a * d + b * c))) ∧ w = w') := by
    rw [← fp_add_fp]; exact plus_any _ _ (fp_nonneg _) (fp_lt _) (fp_nonneg _) (fp_lt _)
  clear a0 a1 b0 b1 c0 c1 d0 d1
  go_enter Tryd.func73, Tryd.ntmps73
  go_wp2
  obtain ⟨W, hW, hb, hx, hy, hr⟩ := boxes2r w 69 69 69 #[.int .i64 a, .int .i64 b] #[.int .i64 c, .int .i64 d] #[.int .i64 0, .int .i64 0]
  rw [hW]
  clear hW
  refine wp_region_class 23 (fun wz => Below W.heap.size W wz) mixes (by kernel_rfl) (Below.refl _ _).drew ?_
  simp only [List.take_succ_cons, List.take_zero, List.drop_succ_cons, List.drop_zero]
  repeat (refine cls_step rfl (fun K hK => ⟨_, (fun w' hw => by have q0 := (hx.on hw hx.lt).cell 0; have q1 := (hx.on hw hx.lt).cell 1; have q2 := (hy.on hw hy.lt).cell 0; have q3 := (hy.on hw hy.lt).cell 1; go_simp; exact rfl), ?_⟩); go_simp; refine hK _ ?_; clear hK K)
  refine cls_call rfl (fun K hK => ⟨_, _, _, (fun w' => by go_simp <;> first | exact rfl | exact ⟨rfl, rfl⟩), (fun w' hw => calls_same hw (HAC.out _)), ?_⟩); go_simp; refine hK _ ?_; clear hK K
  repeat (refine cls_step rfl (fun K hK => ⟨_, (fun w' hw => by have q0 := (hx.on hw hx.lt).cell 0; have q1 := (hx.on hw hx.lt).cell 1; have q2 := (hy.on hw hy.lt).cell 0; have q3 := (hy.on hw hy.lt).cell 1; go_simp; exact rfl), ?_⟩); go_simp; refine hK _ ?_; clear hK K)
  refine cls_call rfl (fun K hK => ⟨_, _, _, (fun w' => by go_simp <;> first | exact rfl | exact ⟨rfl, rfl⟩), (fun w' hw => calls_same hw (HBD.out _)), ?_⟩); go_simp; refine hK _ ?_; clear hK K
  refine cls_call rfl (fun K hK => ⟨_, _, _, (fun w' => by go_simp <;> first | exact rfl | exact ⟨rfl, rfl⟩), (fun w' hw => calls_same hw (HM.out _)), ?_⟩); go_simp; refine hK _ ?_; clear hK K
  repeat (refine cls_step rfl (fun K hK => ⟨_, (fun w' hw => by have q0 := (hx.on hw hx.lt).cell 0; have q1 := (hx.on hw hx.lt).cell 1; have q2 := (hy.on hw hy.lt).cell 0; have q3 := (hy.on hw hy.lt).cell 1; go_simp; exact rfl), ?_⟩); go_simp; refine hK _ ?_; clear hK K)
  refine cls_call rfl (fun K hK => ⟨_, _, _, (fun w' => by go_simp <;> first | exact rfl | exact ⟨rfl, rfl⟩), (fun w' hw => calls_same hw (HAD.out _)), ?_⟩); go_simp; refine hK _ ?_; clear hK K
  repeat (refine cls_step rfl (fun K hK => ⟨_, (fun w' hw => by have q0 := (hx.on hw hx.lt).cell 0; have q1 := (hx.on hw hx.lt).cell 1; have q2 := (hy.on hw hy.lt).cell 0; have q3 := (hy.on hw hy.lt).cell 1; go_simp; exact rfl), ?_⟩); go_simp; refine hK _ ?_; clear hK K)
  refine cls_call rfl (fun K hK => ⟨_, _, _, (fun w' => by go_simp <;> first | exact rfl | exact ⟨rfl, rfl⟩), (fun w' hw => calls_same hw (HBC.out _)), ?_⟩); go_simp; refine hK _ ?_; clear hK K
  refine cls_call rfl (fun K hK => ⟨_, _, _, (fun w' => by go_simp <;> first | exact rfl | exact ⟨rfl, rfl⟩), (fun w' hw => calls_same hw (HP.out _)), ?_⟩); go_simp; refine hK _ ?_; clear hK K
  repeat (refine cls_step rfl (fun K hK => ⟨_, (fun w' hw => by go_simp; exact rfl), ?_⟩); go_simp; refine hK _ ?_; clear hK K)
  refine wq_nil ?_
  intro w' hw
  have q0 := (hr.on hw hr.lt).cell 0
  have r0 := (hr.on hw hr.lt).free 0
  have q1 := (hr.on hw hr.lt).cell 1
  have r1 := (hr.on hw hr.lt).free 1
  go_wp2
  refine bodyPost_ret_by (result_blk rfl rfl (((hr.on hw hr.lt).set 0 _).set 1 _) Tryd.underlying69 infoN) rfl ⟨rfl, ((hb.trans (hw.mono hb.size)).setCell (by simp; omega) _).setCell (by simp; omega) _⟩

set_option maxHeartbeats 800000 in
set_option maxRecDepth 100000 in
theorem two_any (x : Int × Int) (w : World) :
    Calls Tryd.prog 53 #[tv x] w fun e w' => e = .returned (tv x) ∧ Below w.heap.size w w' := by
  obtain ⟨a, b⟩ := x
  go_enter Tryd.func53, Tryd.ntmps53
  go_wp2
  refine bodyPost_ret_by (result_blk rfl rfl (Blk.newAt (by simp)) Tryd.underlying45 infoT) rfl ⟨rfl, ((Below.refl _ _).alloc (Nat.le_refl _) _).alloc (by simp) _⟩

set_option maxHeartbeats 800000 in
set_option maxRecDepth 100000 in
theorem turned_any (x : Int × Int) (hx2 : In2 x) (w : World) :
    Calls Tryd.prog 72 #[tv x] w fun e w' => e = .returned (tv (tt x)) ∧ Below w.heap.size w w' := by
  obtain ⟨a, b⟩ := x
  have HM : Hid (∀ w, Calls Tryd.prog 64 #[.int .i64 0, .int .i64 b] w fun e w' => e = .returned (.int .i64 (fp (0 - b))) ∧ w = w') := minus_any 0 b (by decide) (by decide) hx2.2.1 hx2.2.2
  clear hx2
  go_enter Tryd.func72, Tryd.ntmps72
  go_wp2
  obtain ⟨W, hW, hb, hx, hr⟩ := boxes1r w 69 69 #[.int .i64 a, .int .i64 b] #[.int .i64 0, .int .i64 0]
  rw [hW]
  clear hW
  refine wp_region_class 6 (fun wz => Below W.heap.size W wz) mixes (by kernel_rfl) (Below.refl _ _).drew ?_
  simp only [List.take_succ_cons, List.take_zero, List.drop_succ_cons, List.drop_zero]
  repeat (refine cls_step rfl (fun K hK => ⟨_, (fun w' hw => by have q0 := (hx.on hw hx.lt).cell 0; have q1 := (hx.on hw hx.lt).cell 1; go_simp; exact rfl), ?_⟩); go_simp; refine hK _ ?_; clear hK K)
  refine cls_call rfl (fun K hK => ⟨_, _, _, (fun w' => by go_simp <;> first | exact rfl | exact ⟨rfl, rfl⟩), (fun w' hw => calls_same hw (HM.out _)), ?_⟩); go_simp; refine hK _ ?_; clear hK K
  repeat (refine cls_step rfl (fun K hK => ⟨_, (fun w' hw => by go_simp; exact rfl), ?_⟩); go_simp; refine hK _ ?_; clear hK K)
  refine wq_nil ?_
  intro w' hw
  have q0 := (hr.on hw hr.lt).cell 0
  have r0 := (hr.on hw hr.lt).free 0
  have q1 := (hr.on hw hr.lt).cell 1
  have r1 := (hr.on hw hr.lt).free 1
  go_wp2
  refine bodyPost_ret_by (result_blk rfl rfl (((hr.on hw hr.lt).set 0 _).set 1 _) Tryd.underlying69 infoN) rfl ⟨by simp [tt], ((hb.trans (hw.mono hb.size)).setCell (by simp) _).setCell (by simp) _⟩

end Go.Proofs.YtldkdgbcnbgmiaaDoor

/-
  The walks of the specification's numbers two by two.
  (-DROP-: what the seat lacks is left out.)
-/
namespace Go.Proofs.YtldkdgbcnbgmiaaDoor
open Go.RowKit

set_option maxHeartbeats 800000 in
set_option maxRecDepth 100000 in
theorem sMul2_any (x y : Int × Int) (w : World) :
    Calls Tryd.prog 49 #[tv x, tv y] w fun e w' => e = .returned (tv (tm x y)) ∧ Below w.heap.size w w' := by
  obtain ⟨a, b⟩ := x
  obtain ⟨c, d⟩ := y
  rw [show tm (a, b) (c, d) = (fpSub (fpMul a c) (fpMul b d), fpAdd (fpMul a d) (fpMul b c)) by
    rw [fpSub_eq, fpAdd_eq, fpMul_eq, fpMul_eq, fpMul_eq, fpMul_eq, fp_sub_fp, fp_add_fp]; rfl]
  go_enter Tryd.func49, Tryd.ntmps49
  go_wp2
  obtain ⟨W, hW, hb, hx, hy, hr⟩ := boxes2r w 45 45 45 #[.int .i64 a, .int .i64 b] #[.int .i64 c, .int .i64 d] #[.int .i64 0, .int .i64 0]
  rw [hW]
  clear hW
  refine wp_region_class 23 (fun wz => Below W.heap.size W wz) mixes (by kernel_rfl) (Below.refl _ _).drew ?_
  simp only [List.take_succ_cons, List.take_zero, List.drop_succ_cons, List.drop_zero]
  repeat (refine cls_step rfl (fun K hK => ⟨_, (fun w' hw => by have q0 := (hx.on hw hx.lt).cell 0; have q1 := (hx.on hw hx.lt).cell 1; have q2 := (hy.on hw hy.lt).cell 0; have q3 := (hy.on hw hy.lt).cell 1; go_simp; exact rfl), ?_⟩); go_simp; refine hK _ ?_; clear hK K)
  refine cls_call rfl (fun K hK => ⟨_, _, _, (fun w' => by go_simp <;> first | exact rfl | exact ⟨rfl, rfl⟩), (fun w' hw => calls_same hw (sMul_any _ _ _)), ?_⟩); go_simp; refine hK _ ?_; clear hK K
  repeat (refine cls_step rfl (fun K hK => ⟨_, (fun w' hw => by have q0 := (hx.on hw hx.lt).cell 0; have q1 := (hx.on hw hx.lt).cell 1; have q2 := (hy.on hw hy.lt).cell 0; have q3 := (hy.on hw hy.lt).cell 1; go_simp; exact rfl), ?_⟩); go_simp; refine hK _ ?_; clear hK K)
  refine cls_call rfl (fun K hK => ⟨_, _, _, (fun w' => by go_simp <;> first | exact rfl | exact ⟨rfl, rfl⟩), (fun w' hw => calls_same hw (sMul_any _ _ _)), ?_⟩); go_simp; refine hK _ ?_; clear hK K
  refine cls_call rfl (fun K hK => ⟨_, _, _, (fun w' => by go_simp <;> first | exact rfl | exact ⟨rfl, rfl⟩), (fun w' hw => calls_same hw (sSub_any _ _ _)), ?_⟩); go_simp; refine hK _ ?_; clear hK K
  repeat (refine cls_step rfl (fun K hK => ⟨_, (fun w' hw => by have q0 := (hx.on hw hx.lt).cell 0; have q1 := (hx.on hw hx.lt).cell 1; have q2 := (hy.on hw hy.lt).cell 0; have q3 := (hy.on hw hy.lt).cell 1; go_simp; exact rfl), ?_⟩); go_simp; refine hK _ ?_; clear hK K)
  refine cls_call rfl (fun K hK => ⟨_, _, _, (fun w' => by go_simp <;> first | exact rfl | exact ⟨rfl, rfl⟩), (fun w' hw => calls_same hw (sMul_any _ _ _)), ?_⟩); go_simp; refine hK _ ?_; clear hK K
  repeat (refine cls_step rfl (fun K hK => ⟨_, (fun w' hw => by have q0 := (hx.on hw hx.lt).cell 0; have q1 := (hx.on hw hx.lt).cell 1; have q2 := (hy.on hw hy.lt).cell 0; have q3 := (hy.on hw hy.lt).cell 1; go_simp; exact rfl), ?_⟩); go_simp; refine hK _ ?_; clear hK K)
  refine cls_call rfl (fun K hK => ⟨_, _, _, (fun w' => by go_simp <;> first | exact rfl | exact ⟨rfl, rfl⟩), (fun w' hw => calls_same hw (sMul_any _ _ _)), ?_⟩); go_simp; refine hK _ ?_; clear hK K
  refine cls_call rfl (fun K hK => ⟨_, _, _, (fun w' => by go_simp <;> first | exact rfl | exact ⟨rfl, rfl⟩), (fun w' hw => calls_same hw (sAdd_any _ _ _)), ?_⟩); go_simp; refine hK _ ?_; clear hK K
  repeat (refine cls_step rfl (fun K hK => ⟨_, (fun w' hw => by go_simp; exact rfl), ?_⟩); go_simp; refine hK _ ?_; clear hK K)
  refine wq_nil ?_
  intro w' hw
  have q0 := (hr.on hw hr.lt).cell 0
  have r0 := (hr.on hw hr.lt).free 0
  have q1 := (hr.on hw hr.lt).cell 1
  have r1 := (hr.on hw hr.lt).free 1
  go_wp2
  refine bodyPost_ret_by (result_blk rfl rfl (((hr.on hw hr.lt).set 0 _).set 1 _) Tryd.underlying45 infoT) rfl ⟨rfl, ((hb.trans (hw.mono hb.size)).setCell (by simp; omega) _).setCell (by simp; omega) _⟩

set_option maxHeartbeats 800000 in
set_option maxRecDepth 100000 in
theorem sInv2_any (x : Int × Int) (w : World) :
    Calls Tryd.prog 51 #[tv x] w fun e w' => e = .returned (tv (ti x)) ∧ Below w.heap.size w w' := by
  obtain ⟨a, b⟩ := x
  have hn : fpPow (fpAdd (fpMul a a) (fpMul b b)) 12105 = tn (a, b) := by
    rw [fpAdd_eq, fpMul_eq, fpMul_eq, fp_add_fp, fpPow_fp0]; rfl
  have HI : Hid (∀ w, Calls Tryd.prog 70 #[.int .i64 (fpAdd (fpMul a a) (fpMul b b))] w fun e w' => e = .returned (.int .i64 (tn (a, b))) ∧ w = w') := by
    rw [← hn]; exact sInv_any _
  have HN : Hid (∀ w, Calls Tryd.prog 35 #[.int .i64 (fpSub 0 b), .int .i64 (tn (a, b))] w fun e w' => e = .returned (.int .i64 (ti (a, b)).2) ∧ w = w') := by
    have h := sMul_any (fpSub 0 b) (tn (a, b))
    rw [show fpMul (fpSub 0 b) (tn (a, b)) = (ti (a, b)).2 by rw [fpMul_eq, fpSub_eq, fp_mul_left]; rfl] at h
    exact h
  have HM : Hid (∀ w, Calls Tryd.prog 35 #[.int .i64 a, .int .i64 (tn (a, b))] w fun e w' => e = .returned (.int .i64 (ti (a, b)).1) ∧ w = w') := by
    have h := sMul_any a (tn (a, b))
    rw [show fpMul a (tn (a, b)) = (ti (a, b)).1 by rw [fpMul_eq]; rfl] at h
    exact h
  clear hn
  generalize tn (a, b) = n at HI HN HM
  generalize ti (a, b) = v at HN HM ⊢
  go_enter Tryd.func51, Tryd.ntmps51
  go_wp2
  obtain ⟨W, hW, hb, hx, hr⟩ := boxes1r w 45 45 #[.int .i64 a, .int .i64 b] #[.int .i64 0, .int .i64 0]
  rw [hW]
  clear hW
  refine wp_region_class 12 (fun wz => Below W.heap.size W wz) mixes (by kernel_rfl) (Below.refl _ _).drew ?_
  simp only [List.take_succ_cons, List.take_zero, List.drop_succ_cons, List.drop_zero]
  repeat (refine cls_step rfl (fun K hK => ⟨_, (fun w' hw => by have q0 := (hx.on hw hx.lt).cell 0; have q1 := (hx.on hw hx.lt).cell 1; go_simp; exact rfl), ?_⟩); go_simp; refine hK _ ?_; clear hK K)
  refine cls_call rfl (fun K hK => ⟨_, _, _, (fun w' => by go_simp <;> first | exact rfl | exact ⟨rfl, rfl⟩), (fun w' hw => calls_same hw (sMul_any _ _ _)), ?_⟩); go_simp; refine hK _ ?_; clear hK K
  repeat (refine cls_step rfl (fun K hK => ⟨_, (fun w' hw => by have q0 := (hx.on hw hx.lt).cell 0; have q1 := (hx.on hw hx.lt).cell 1; go_simp; exact rfl), ?_⟩); go_simp; refine hK _ ?_; clear hK K)
  refine cls_call rfl (fun K hK => ⟨_, _, _, (fun w' => by go_simp <;> first | exact rfl | exact ⟨rfl, rfl⟩), (fun w' hw => calls_same hw (sMul_any _ _ _)), ?_⟩); go_simp; refine hK _ ?_; clear hK K
  refine cls_call rfl (fun K hK => ⟨_, _, _, (fun w' => by go_simp <;> first | exact rfl | exact ⟨rfl, rfl⟩), (fun w' hw => calls_same hw (sAdd_any _ _ _)), ?_⟩); go_simp; refine hK _ ?_; clear hK K
  refine cls_call rfl (fun K hK => ⟨_, _, _, (fun w' => by go_simp <;> first | exact rfl | exact ⟨rfl, rfl⟩), (fun w' hw => calls_same hw (HI.out _)), ?_⟩); go_simp; refine hK _ ?_; clear hK K
  refine wq_nil ?_
  intro w' hw
  go_wp2
  have hxV := hx.on hw hx.lt
  have hrV := hr.on hw hr.lt
  have hbb := below_then hb hw
  clear hx hr hb hw
  refine wp_region_class 10 (fun wz => Below w'.heap.size w' wz) mixes (by kernel_rfl) (Below.refl _ _).drew ?_
  simp only [List.take_succ_cons, List.take_zero, List.drop_succ_cons, List.drop_zero]
  repeat (refine cls_step rfl (fun K hK => ⟨_, (fun w' hw => by have q0 := (hxV.on hw hxV.lt).cell 0; have q1 := (hxV.on hw hxV.lt).cell 1; go_simp; exact rfl), ?_⟩); go_simp; refine hK _ ?_; clear hK K)
  refine cls_call rfl (fun K hK => ⟨_, _, _, (fun w' => by go_simp <;> first | exact rfl | exact ⟨rfl, rfl⟩), (fun w' hw => calls_same hw (HM.out _)), ?_⟩); go_simp; refine hK _ ?_; clear hK K
  repeat (refine cls_step rfl (fun K hK => ⟨_, (fun w' hw => by have q0 := (hxV.on hw hxV.lt).cell 0; have q1 := (hxV.on hw hxV.lt).cell 1; go_simp; exact rfl), ?_⟩); go_simp; refine hK _ ?_; clear hK K)
  refine cls_call rfl (fun K hK => ⟨_, _, _, (fun w' => by go_simp <;> first | exact rfl | exact ⟨rfl, rfl⟩), (fun w' hw => calls_same hw (sSub_any _ _ _)), ?_⟩); go_simp; refine hK _ ?_; clear hK K
  repeat (refine cls_step rfl (fun K hK => ⟨_, (fun w' hw => by have q0 := (hxV.on hw hxV.lt).cell 0; have q1 := (hxV.on hw hxV.lt).cell 1; go_simp; exact rfl), ?_⟩); go_simp; refine hK _ ?_; clear hK K)
  refine cls_call rfl (fun K hK => ⟨_, _, _, (fun w' => by go_simp <;> first | exact rfl | exact ⟨rfl, rfl⟩), (fun w' hw => calls_same hw (HN.out _)), ?_⟩); go_simp; refine hK _ ?_; clear hK K
  repeat (refine cls_step rfl (fun K hK => ⟨_, (fun w' hw => by go_simp; exact rfl), ?_⟩); go_simp; refine hK _ ?_; clear hK K)
  refine wq_nil ?_
  intro w' hw
  have q0 := (hrV.on hw hrV.lt).cell 0
  have r0 := (hrV.on hw hrV.lt).free 0
  have q1 := (hrV.on hw hrV.lt).cell 1
  have r1 := (hrV.on hw hrV.lt).free 1
  go_wp2
  refine bodyPost_ret_by (result_blk rfl rfl (((hrV.on hw hrV.lt).set 0 _).set 1 _) Tryd.underlying45 infoT) rfl ⟨rfl, ((below_then hbb hw).setCell (by simp) _).setCell (by simp) _⟩

end Go.Proofs.YtldkdgbcnbgmiaaDoor
