/-
  Texts of one's own, joined.
-/
import Derived.Test.YthnahalboomkoaaGreatJoined1
import Derived.Test.YthnahalboomkoaaGreatJoined3

/-
  The walks of the program's numbers two by two.
  (-DROP-: what the seat lacks is left out.)
-/
namespace Go.Proofs.YthnahalboomkoaaGreat
open Go.RowKit

theorem infoN : (Tryz.prog.info? 160).map (·.size) = some 2 := by kernel_rfl

theorem infoT : (Tryz.prog.info? 103).map (·.size) = some 2 := by kernel_rfl

/-- A number of two parts, as a value. -/
abbrev tv (x : Int × Int) : Value := .agg #[.int .i64 x.1, .int .i64 x.2]
theorem ones2 (a b : Int) : (#[Value.int .i64 a, Value.int .i64 b]).all (·.oneCell') = true := by simp [Value.oneCell']
theorem fp_sub_fp (a b : Int) : fp (fp a - fp b) = fp (a - b) := by unfold fp; simp

set_option maxHeartbeats 800000 in
set_option maxRecDepth 100000 in
theorem times2_any (x y : Int × Int) (hx2 : In2 x) (hy2 : In2 y) (w : World) :
    Calls Tryz.prog 134 #[tv x, tv y] w fun e w' => e = .returned (tv (tm x y)) ∧ Below w.heap.size w w' := by
  obtain ⟨a, b⟩ := x
  obtain ⟨c, d⟩ := y
  obtain ⟨⟨a0, a1⟩, b0, b1⟩ := hx2
  obtain ⟨⟨c0, c1⟩, d0, d1⟩ := hy2
  simp only at a0 a1 b0 b1 c0 c1 d0 d1
  have HAC : Hid (∀ w, Calls Tryz.prog 142 #[.int .i64 a, .int .i64 c] w fun e w' => e = .returned (.int .i64 (fp (a * c))) ∧ w = w') := times_any a c a0 a1 c0 c1
  have HBD : Hid (∀ w, Calls Tryz.prog 142 #[.int .i64 b, .int .i64 d] w fun e w' => e = .returned (.int .i64 (fp (b * d))) ∧ w = w') := times_any b d b0 b1 d0 d1
  have HAD : Hid (∀ w, Calls Tryz.prog 142 #[.int .i64 a, .int .i64 d] w fun e w' => e = .returned (.int .i64 (fp (a * d))) ∧ w = w') := times_any a d a0 a1 d0 d1
  have HBC : Hid (∀ w, Calls Tryz.prog 142 #[.int .i64 b, .int .i64 c] w fun e w' => e = .returned (.int .i64 (fp (b * c))) ∧ w = w') := times_any b c b0 b1 c0 c1
  have HM : Hid (∀ w, Calls Tryz.prog 144 #[.int .i64 (fp (a * c)), .int .i64 (fp (b * d))] w fun e w' => e = .returned (.int .i64 (fp (a * c - b * d))) ∧ w = w') := by
    rw [← fp_sub_fp]; exact minus_any _ _ (fp_nonneg _) (fp_lt _) (fp_nonneg _) (fp_lt _)
  have HP : Hid (∀ w, Calls Tryz.prog 185 #[.int .i64 (fp (a * d)), .int .i64 (fp (b * c))] w fun e w' => e = .returned (.int .i64 (fp (a * d + b * c))) ∧ w = w') := by
    rw [← fp_add_fp]; exact plus_any _ _ (fp_nonneg _) (fp_lt _) (fp_nonneg _) (fp_lt _)
  clear a0 a1 b0 b1 c0 c1 d0 d1
  go_enter Tryz.func134, Tryz.ntmps134
  go_wp2
  obtain ⟨W, hW, hb, hx, hy, hr⟩ := boxes2r w 160 160 160 #[.int .i64 a, .int .i64 b] #[.int .i64 c, .int .i64 d] #[.int .i64 0, .int .i64 0]
  rw [hW]
  clear hW
  refine wp_region_class 23 (fun wz => Below W.heap.size W wz) mixes (by kernel_rfl) (Below.refl _ _).drew ?_
  simp only [List.take_succ_cons, List.take_zero, List.drop_succ_cons, List.drop_zero]
  repeat (refine cls_step rfl (fun K hK => ⟨_, (fun w' hw => by have q0 := (hx.on hw hx.lt).cell 0; have q1 := (hx.on hw hx.lt).cell 1; have q2 := (hy.on hw hy.lt).cell 0; have q3 := (hy.on hw hy.lt).cell 1; go_simp; exact rfl), ?_⟩); go_simp; refine hK _ ?_; clear hK K)
  refine cls_call rfl (fun K hK => ⟨_, _, _, (fun w' => by go_simp <;> first | exact rfl | exact ⟨rfl, rfl⟩), (fun w' hw => calls_same hw (HAC.out _)), ?_⟩); go_simp; refine hK _ ?_; clear hK K
  repeat (refine cls_step rfl (fun K hK => ⟨_, (fun w' hw => by have q0 := (hx.on hw hx.lt).cell 0; have q1 := (hx.on hw hx.lt).cell 1; have q2 := (hy.on hw hy.lt).cell 0; have q3 := (hy.on hw hy.lt).cell 1; go_simp; exact rfl), ?_⟩); go_simp; refine hK _ ?_; clear hK K)
  refine cls_call rfl (fun K hK => ⟨_, _, _, (fun w' => by go_simp <;> first | exact rfl | exact ⟨rfl, rfl⟩), (fun w' hw => calls_same hw (HBD.out _)), ?_⟩); go_simp; refine hK _ ?_; clear hK K
  refine cls_call rfl (fun K hK => ⟨_, _, _, (fun w' => by go_simp <;> first | exact rfl | exact ⟨rfl, rfl⟩), (fun w' hw => calls_same hw (HM.out _)), ?_⟩); go_simp; refine hK _ ?_; clear hK K
  repeat (refine cls_step rfl (fun K hK => ⟨_, (fun w' hw => by have q0 := (hx.on hw hx.lt).cell 0; have q1 := (hx.on hw hx.lt).cell 1; have q2 := (hy.on hw hy.lt).cell 0; have q3 := (hy.on hw hy.lt).cell 1; go_simp; exact rfl), ?_⟩); go_simp; refine hK _ ?_; clear hK K)
  refine cls_call rfl (fun K hK => ⟨_, _, _, (fun w' => by go_simp <;> first | exact rfl | exact ⟨rfl, rfl⟩), (fun w' hw => calls_same hw (HAD.out _)), ?_⟩); go_simp; refine hK _ ?_; clear hK K
  repeat (refine cls_step rfl (fun K hK => ⟨_, (fun w' hw => by have q0 := (hx.on hw hx.lt).cell 0; have q1 := (hx.on hw hx.lt).cell 1; have q2 := (hy.on hw hy.lt).cell 0; have q3 := (hy.on hw hy.lt).cell 1; go_simp; exact rfl), ?_⟩); go_simp; refine hK _ ?_; clear hK K)
  refine cls_call rfl (fun K hK => ⟨_, _, _, (fun w' => by go_simp <;> first | exact rfl | exact ⟨rfl, rfl⟩), (fun w' hw => calls_same hw (HBC.out _)), ?_⟩); go_simp; refine hK _ ?_; clear hK K
  refine cls_call rfl (fun K hK => ⟨_, _, _, (fun w' => by go_simp <;> first | exact rfl | exact ⟨rfl, rfl⟩), (fun w' hw => calls_same hw (HP.out _)), ?_⟩); go_simp; refine hK _ ?_; clear hK K
  repeat (refine cls_step rfl (fun K hK => ⟨_, (fun w' hw => by go_simp; exact rfl), ?_⟩); go_simp; refine hK _ ?_; clear hK K)
  refine wq_nil ?_
  intro w' hw
  have q0 := (hr.on hw hr.lt).cell 0
  have r0 := (hr.on hw hr.lt).free 0
  have q1 := (hr.on hw hr.lt).cell 1
  have r1 := (hr.on hw hr.lt).free 1
  go_wp2
  refine bodyPost_ret_by (result_blk rfl rfl (((hr.on hw hr.lt).set 0 _).set 1 _) Tryz.underlying160 infoN) rfl ⟨rfl, ((hb.trans (hw.mono hb.size)).setCell (by simp; omega) _).setCell (by simp; omega) _⟩

set_option maxHeartbeats 800000 in
set_option maxRecDepth 100000 in
theorem twoOf_any (x : Int × Int) (w : World) :
    Calls Tryz.prog 133 #[tv x] w fun e w' => e = .returned (tv (fp2 x)) ∧ Below w.heap.size w w' := by
  obtain ⟨a, b⟩ := x
  go_enter Tryz.func133, Tryz.ntmps133
  go_wp2
  obtain ⟨W, hW, hb, hx, hr⟩ := boxes1r w 103 160 #[.int .i64 a, .int .i64 b] #[.int .i64 0, .int .i64 0]
  rw [hW]
  clear hW
  refine wp_region_class 7 (fun wz => Below W.heap.size W wz) mixes (by kernel_rfl) (Below.refl _ _).drew ?_
  simp only [List.take_succ_cons, List.take_zero, List.drop_succ_cons, List.drop_zero]
  repeat (refine cls_step rfl (fun K hK => ⟨_, (fun w' hw => by have q0 := (hx.on hw hx.lt).cell 0; have q1 := (hx.on hw hx.lt).cell 1; go_simp; exact rfl), ?_⟩); go_simp; refine hK _ ?_; clear hK K)
  refine cls_call rfl (fun K hK => ⟨_, _, _, (fun w' => by go_simp <;> first | exact rfl | exact ⟨rfl, rfl⟩), (fun w' hw => calls_same hw (fieldOf_any _ _)), ?_⟩); go_simp; refine hK _ ?_; clear hK K
  repeat (refine cls_step rfl (fun K hK => ⟨_, (fun w' hw => by have q0 := (hx.on hw hx.lt).cell 0; have q1 := (hx.on hw hx.lt).cell 1; go_simp; exact rfl), ?_⟩); go_simp; refine hK _ ?_; clear hK K)
  refine cls_call rfl (fun K hK => ⟨_, _, _, (fun w' => by go_simp <;> first | exact rfl | exact ⟨rfl, rfl⟩), (fun w' hw => calls_same hw (fieldOf_any _ _)), ?_⟩); go_simp; refine hK _ ?_; clear hK K
  repeat (refine cls_step rfl (fun K hK => ⟨_, (fun w' hw => by go_simp; exact rfl), ?_⟩); go_simp; refine hK _ ?_; clear hK K)
  refine wq_nil ?_
  intro w' hw
  have q0 := (hr.on hw hr.lt).cell 0
  have r0 := (hr.on hw hr.lt).free 0
  have q1 := (hr.on hw hr.lt).cell 1
  have r1 := (hr.on hw hr.lt).free 1
  go_wp2
  refine bodyPost_ret_by (result_blk rfl rfl (((hr.on hw hr.lt).set 0 _).set 1 _) Tryz.underlying160 infoN) rfl ⟨rfl, ((hb.trans (hw.mono hb.size)).setCell (by simp) _).setCell (by simp) _⟩

set_option maxHeartbeats 800000 in
set_option maxRecDepth 100000 in
theorem two_any (x : Int × Int) (w : World) :
    Calls Tryz.prog 135 #[tv x] w fun e w' => e = .returned (tv x) ∧ Below w.heap.size w w' := by
  obtain ⟨a, b⟩ := x
  go_enter Tryz.func135, Tryz.ntmps135
  go_wp2
  refine bodyPost_ret_by (result_blk rfl rfl (Blk.newAt (by simp)) Tryz.underlying103 infoT) rfl ⟨rfl, ((Below.refl _ _).alloc (Nat.le_refl _) _).alloc (by simp) _⟩

set_option maxHeartbeats 800000 in
set_option maxRecDepth 100000 in
theorem turned_any (x : Int × Int) (hx2 : In2 x) (w : World) :
    Calls Tryz.prog 187 #[tv x] w fun e w' => e = .returned (tv (tt x)) ∧ Below w.heap.size w w' := by
  obtain ⟨a, b⟩ := x
  have HM : Hid (∀ w, Calls Tryz.prog 144 #[.int .i64 0, .int .i64 b] w fun e w' => e = .returned (.int .i64 (fp (0 - b))) ∧ w = w') := minus_any 0 b (by decide) (by decide) hx2.2.1 hx2.2.2
  clear hx2
  go_enter Tryz.func187, Tryz.ntmps187
  go_wp2
  obtain ⟨W, hW, hb, hx, hr⟩ := boxes1r w 160 160 #[.int .i64 a, .int .i64 b] #[.int .i64 0, .int .i64 0]
  rw [hW]
  clear hW
  refine wp_region_class 6 (fun wz => Below W.heap.size W wz) mixes (by kernel_rfl) (Below.refl _ _).drew ?_
  simp only [List.take_succ_cons, List.take_zero, List.drop_succ_cons, List.drop_zero]
  repeat (refine cls_step rfl (fun K hK => ⟨_, (fun w' hw => by have q0 := (hx.on hw hx.lt).cell 0; have q1 := (hx.on hw hx.lt).cell 1; go_simp; exact rfl), ?_⟩); go_simp; refine hK _ ?_; clear hK K)
  refine cls_call rfl (fun K hK => ⟨_, _, _, (fun w' => by go_simp <;> first | exact rfl | exact ⟨rfl, rfl⟩), (fun w' hw => calls_same hw (HM.out _)), ?_⟩); go_simp; refine hK _ ?_; clear hK K
  repeat (refine cls_step rfl (fun K hK => ⟨_, (fun w' hw => by go_simp; exact rfl), ?_⟩); go_simp; refine hK _ ?_; clear hK K)
  refine wq_nil ?_
  intro w' hw
  have q0 := (hr.on hw hr.lt).cell 0
  have r0 := (hr.on hw hr.lt).free 0
  have q1 := (hr.on hw hr.lt).cell 1
  have r1 := (hr.on hw hr.lt).free 1
  go_wp2
  refine bodyPost_ret_by (result_blk rfl rfl (((hr.on hw hr.lt).set 0 _).set 1 _) Tryz.underlying160 infoN) rfl ⟨by simp [tt], ((hb.trans (hw.mono hb.size)).setCell (by simp) _).setCell (by simp) _⟩

set_option maxHeartbeats 800000 in
set_option maxRecDepth 100000 in
theorem iMul2_any (x y : Int × Int) (w : World) :
    Calls Tryz.prog 61 #[tv x, tv y] w fun e w' => e = .returned (tv (tm x y)) ∧ Below w.heap.size w w' := by
  have HT : Hid (∀ w, Calls Tryz.prog 134 #[tv (fp2 x), tv (fp2 y)] w fun e w' => e = .returned (tv (tm x y)) ∧ Below w.heap.size w w') := by
    rw [show tm x y = tm (fp2 x) (fp2 y) from (fp2_gm x y).symm]
    exact times2_any _ _ (in2_fp2 _) (in2_fp2 _)
  go_enter Tryz.func61, Tryz.ntmps61
  go_wp2
  obtain ⟨W, hW, hb, hx, hy, hr⟩ := boxes2r w 103 103 103 #[.int .i64 x.1, .int .i64 x.2] #[.int .i64 y.1, .int .i64 y.2] #[.int .i64 0, .int .i64 0]
  rw [hW]
  clear hW
  refine wp_region_class 6 (fun wz => Below W.heap.size W wz) mixes (by kernel_rfl) (Below.refl _ _).drew ?_
  simp only [List.take_succ_cons, List.take_zero, List.drop_succ_cons, List.drop_zero]
  repeat (refine cls_step rfl (fun K hK => ⟨_, (fun w' hw => by have q0 := (hx.on hw hx.lt).cell 0; have q1 := (hx.on hw hx.lt).cell 1; have q2 := (hy.on hw hy.lt).cell 0; have q3 := (hy.on hw hy.lt).cell 1; go_simp; exact rfl), ?_⟩); go_simp; refine hK _ ?_; clear hK K)
  refine cls_call rfl (fun K hK => ⟨_, _, _, (fun w' => by go_simp <;> first | exact rfl | exact ⟨rfl, rfl⟩), (fun w' hw => calls_below hw (twoOf_any x _)), ?_⟩); go_simp; refine hK _ ?_; clear hK K
  repeat (refine cls_step rfl (fun K hK => ⟨_, (fun w' hw => by have q0 := (hx.on hw hx.lt).cell 0; have q1 := (hx.on hw hx.lt).cell 1; have q2 := (hy.on hw hy.lt).cell 0; have q3 := (hy.on hw hy.lt).cell 1; go_simp; exact rfl), ?_⟩); go_simp; refine hK _ ?_; clear hK K)
  refine cls_call rfl (fun K hK => ⟨_, _, _, (fun w' => by go_simp <;> first | exact rfl | exact ⟨rfl, rfl⟩), (fun w' hw => calls_below hw (twoOf_any y _)), ?_⟩); go_simp; refine hK _ ?_; clear hK K
  refine cls_call rfl (fun K hK => ⟨_, _, _, (fun w' => by go_simp <;> first | exact rfl | exact ⟨rfl, rfl⟩), (fun w' hw => calls_below hw (HT.out _)), ?_⟩); go_simp; refine hK _ ?_; clear hK K
  refine cls_call rfl (fun K hK => ⟨_, _, _, (fun w' => by go_simp <;> first | exact rfl | exact ⟨rfl, rfl⟩), (fun w' hw => calls_below hw (two_any (tm x y) _)), ?_⟩); go_simp; refine hK _ ?_; clear hK K
  refine wq_nil ?_
  intro w' hw
  have q0 := (hr.on hw hr.lt).cell 0
  have r0 := (hr.on hw hr.lt).free 0
  have q1 := (hr.on hw hr.lt).cell 1
  have r1 := (hr.on hw hr.lt).free 1
  go_wp2
  refine bodyPost_ret_by (result_blk rfl rfl (((hr.on hw hr.lt).set 0 _).set 1 _) Tryz.underlying103 infoT) rfl ⟨rfl, ((hb.trans (hw.mono hb.size)).setCell (by simp; omega) _).setCell (by simp; omega) _⟩

end Go.Proofs.YthnahalboomkoaaGreat

/-
  The walks of the specification's numbers two by two.
  (-DROP-: what the seat lacks is left out.)
-/
namespace Go.Proofs.YthnahalboomkoaaGreat
open Go.RowKit

set_option maxHeartbeats 800000 in
set_option maxRecDepth 100000 in
theorem sMul2_any (x y : Int × Int) (w : World) :
    Calls Tryz.prog 103 #[tv x, tv y] w fun e w' => e = .returned (tv (tm x y)) ∧ Below w.heap.size w w' := by
  obtain ⟨a, b⟩ := x
  obtain ⟨c, d⟩ := y
  rw [show tm (a, b) (c, d) = (fpSub (fpMul a c) (fpMul b d), fpAdd (fpMul a d) (fpMul b c)) by
    rw [fpSub_eq, fpAdd_eq, fpMul_eq, fpMul_eq, fpMul_eq, fpMul_eq, fp_sub_fp, fp_add_fp]; rfl]
  go_enter Tryz.func103, Tryz.ntmps103
  go_wp2
  obtain ⟨W, hW, hb, hx, hy, hr⟩ := boxes2r w 103 103 103 #[.int .i64 a, .int .i64 b] #[.int .i64 c, .int .i64 d] #[.int .i64 0, .int .i64 0]
  rw [hW]
  clear hW
  refine wp_region_class 23 (fun wz => Below W.heap.size W wz) mixes (by kernel_rfl) (Below.refl _ _).drew ?_
  simp only [List.take_succ_cons, List.take_zero, List.drop_succ_cons, List.drop_zero]
  repeat (refine cls_step rfl (fun K hK => ⟨_, (fun w' hw => by have q0 := (hx.on hw hx.lt).cell 0; have q1 := (hx.on hw hx.lt).cell 1; have q2 := (hy.on hw hy.lt).cell 0; have q3 := (hy.on hw hy.lt).cell 1; go_simp; exact rfl), ?_⟩); go_simp; refine hK _ ?_; clear hK K)
  refine cls_call rfl (fun K hK => ⟨_, _, _, (fun w' => by go_simp <;> first | exact rfl | exact ⟨rfl, rfl⟩), (fun w' hw => calls_same hw (sMul_any _ _ _)), ?_⟩); go_simp; refine hK _ ?_; clear hK K
  repeat (refine cls_step rfl (fun K hK => ⟨_, (fun w' hw => by have q0 := (hx.on hw hx.lt).cell 0; have q1 := (hx.on hw hx.lt).cell 1; have q2 := (hy.on hw hy.lt).cell 0; have q3 := (hy.on hw hy.lt).cell 1; go_simp; exact rfl), ?_⟩); go_simp; refine hK _ ?_; clear hK K)
  refine cls_call rfl (fun K hK => ⟨_, _, _, (fun w' => by go_simp <;> first | exact rfl | exact ⟨rfl, rfl⟩), (fun w' hw => calls_same hw (sMul_any _ _ _)), ?_⟩); go_simp; refine hK _ ?_; clear hK K
  refine cls_call rfl (fun K hK => ⟨_, _, _, (fun w' => by go_simp <;> first | exact rfl | exact ⟨rfl, rfl⟩), (fun w' hw => calls_same hw (sSub_any _ _ _)), ?_⟩); go_simp; refine hK _ ?_; clear hK K
  repeat (refine cls_step rfl (fun K hK => ⟨_, (fun w' hw => by have q0 := (hx.on hw hx.lt).cell 0; have q1 := (hx.on hw hx.lt).cell 1; have q2 := (hy.on hw hy.lt).cell 0; have q3 := (hy.on hw hy.lt).cell 1; go_simp; exact rfl), ?_⟩); go_simp; refine hK _ ?_; clear hK K)
  refine cls_call rfl (fun K hK => ⟨_, _, _, (fun w' => by go_simp <;> first | exact rfl | exact ⟨rfl, rfl⟩), (fun w' hw => calls_same hw (sMul_any _ _ _)), ?_⟩); go_simp; refine hK _ ?_; clear hK K
  repeat (refine cls_step rfl (fun K hK => ⟨_, (fun w' hw => by have q0 := (hx.on hw hx.lt).cell 0; have q1 := (hx.on hw hx.lt).cell 1; have q2 := (hy.on hw hy.lt).cell 0; have q3 := (hy.on hw hy.lt).cell 1; go_simp; exact rfl), ?_⟩); go_simp; refine hK _ ?_; clear hK K)
  refine cls_call rfl (fun K hK => ⟨_, _, _, (fun w' => by go_simp <;> first | exact rfl | exact ⟨rfl, rfl⟩), (fun w' hw => calls_same hw (sMul_any _ _ _)), ?_⟩); go_simp; refine hK _ ?_; clear hK K
  refine cls_call rfl (fun K hK => ⟨_, _, _, (fun w' => by go_simp <;> first | exact rfl | exact ⟨rfl, rfl⟩), (fun w' hw => calls_same hw (sAdd_any _ _ _)), ?_⟩); go_simp; refine hK _ ?_; clear hK K
  repeat (refine cls_step rfl (fun K hK => ⟨_, (fun w' hw => by go_simp; exact rfl), ?_⟩); go_simp; refine hK _ ?_; clear hK K)
  refine wq_nil ?_
  intro w' hw
  have q0 := (hr.on hw hr.lt).cell 0
  have r0 := (hr.on hw hr.lt).free 0
  have q1 := (hr.on hw hr.lt).cell 1
  have r1 := (hr.on hw hr.lt).free 1
  go_wp2
  refine bodyPost_ret_by (result_blk rfl rfl (((hr.on hw hr.lt).set 0 _).set 1 _) Tryz.underlying103 infoT) rfl ⟨rfl, ((hb.trans (hw.mono hb.size)).setCell (by simp; omega) _).setCell (by simp; omega) _⟩

set_option maxHeartbeats 800000 in
set_option maxRecDepth 100000 in
theorem sInv2_any (x : Int × Int) (w : World) :
    Calls Tryz.prog 171 #[tv x] w fun e w' => e = .returned (tv (ti x)) ∧ Below w.heap.size w w' := by
  obtain ⟨a, b⟩ := x
  have hn : fpPow (fpAdd (fpMul a a) (fpMul b b)) 12105 = tn (a, b) := by
    rw [fpAdd_eq, fpMul_eq, fpMul_eq, fp_add_fp, fpPow_fp0]; rfl
  have HI : Hid (∀ w, Calls Tryz.prog 200 #[.int .i64 (fpAdd (fpMul a a) (fpMul b b))] w fun e w' => e = .returned (.int .i64 (tn (a, b))) ∧ w = w') := by
    rw [← hn]; exact sInv_any _
  have HN : Hid (∀ w, Calls Tryz.prog 166 #[.int .i64 (fpSub 0 b), .int .i64 (tn (a, b))] w fun e w' => e = .returned (.int .i64 (ti (a, b)).2) ∧ w = w') := by
    have h := sMul_any (fpSub 0 b) (tn (a, b))
    rw [show fpMul (fpSub 0 b) (tn (a, b)) = (ti (a, b)).2 by rw [fpMul_eq, fpSub_eq, fp_mul_left]; rfl] at h
    exact h
  have HM : Hid (∀ w, Calls Tryz.prog 166 #[.int .i64 a, .int .i64 (tn (a, b))] w fun e w' => e = .returned (.int .i64 (ti (a, b)).1) ∧ w = w') := by
    have h := sMul_any a (tn (a, b))
    rw [show fpMul a (tn (a, b)) = (ti (a, b)).1 by rw [fpMul_eq]; rfl] at h
    exact h
  clear hn
  generalize tn (a, b) = n at HI HN HM
  generalize ti (a, b) = v at HN HM ⊢
  go_enter Tryz.func171, Tryz.ntmps171
  go_wp2
  obtain ⟨W, hW, hb, hx, hr⟩ := boxes1r w 103 103 #[.int .i64 a, .int .i64 b] #[.int .i64 0, .int .i64 0]
  rw [hW]
  clear hW
  refine wp_region_class 12 (fun wz => Below W.heap.size W wz) mixes (by kernel_rfl) (Below.refl _ _).drew ?_
  simp only [List.take_succ_cons, List.take_zero, List.drop_succ_cons, List.drop_zero]
  repeat (refine cls_step rfl (fun K hK => ⟨_, (fun w' hw => by have q0 := (hx.on hw hx.lt).cell 0; have q1 := (hx.on hw hx.lt).cell 1; go_simp; exact rfl), ?_⟩); go_simp; refine hK _ ?_; clear hK K)
  refine cls_call rfl (fun K hK => ⟨_, _, _, (fun w' => by go_simp <;> first | exact rfl | exact ⟨rfl, rfl⟩), (fun w' hw => calls_same hw (sMul_any _ _ _)), ?_⟩); go_simp; refine hK _ ?_; clear hK K
  repeat (refine cls_step rfl (fun K hK => ⟨_, (fun w' hw => by have q0 := (hx.on hw hx.lt).cell 0; have q1 := (hx.on hw hx.lt).cell 1; go_simp; exact rfl), ?_⟩); go_simp; refine hK _ ?_; clear hK K)
  refine cls_call rfl (fun K hK => ⟨_, _, _, (fun w' => by go_simp <;> first | exact rfl | exact ⟨rfl, rfl⟩), (fun w' hw => calls_same hw (sMul_any _ _ _)), ?_⟩); go_simp; refine hK _ ?_; clear hK K
  refine cls_call rfl (fun K hK => ⟨_, _, _, (fun w' => by go_simp <;> first | exact rfl | exact ⟨rfl, rfl⟩), (fun w' hw => calls_same hw (sAdd_any _ _ _)), ?_⟩); go_simp; refine hK _ ?_; clear hK K
  refine cls_call rfl (fun K hK => ⟨_, _, _, (fun w' => by go_simp <;> first | exact rfl | exact ⟨rfl, rfl⟩), (fun w' hw => calls_same hw (HI.out _)), ?_⟩); go_simp; refine hK _ ?_; clear hK K
  refine wq_nil ?_
  intro w' hw
  go_wp2
  have hxV := hx.on hw hx.lt
  have hrV := hr.on hw hr.lt
  have hbb := below_then hb hw
  clear hx hr hb hw
  refine wp_region_class 10 (fun wz => Below w'.heap.size w' wz) mixes (by kernel_rfl) (Below.refl _ _).drew ?_
  simp only [List.take_succ_cons, List.take_zero, List.drop_succ_cons, List.drop_zero]
  repeat (refine cls_step rfl (fun K hK => ⟨_, (fun w' hw => by have q0 := (hxV.on hw hxV.lt).cell 0; have q1 := (hxV.on hw hxV.lt).cell 1; go_simp; exact rfl), ?_⟩); go_simp; refine hK _ ?_; clear hK K)
  refine cls_call rfl (fun K hK => ⟨_, _, _, (fun w' => by go_simp <;> first | exact rfl | exact ⟨rfl, rfl⟩), (fun w' hw => calls_same hw (HM.out _)), ?_⟩); go_simp; refine hK _ ?_; clear hK K
  repeat (refine cls_step rfl (fun K hK => ⟨_, (fun w' hw => by have q0 := (hxV.on hw hxV.lt).cell 0; have q1 := (hxV.on hw hxV.lt).cell 1; go_simp; exact rfl), ?_⟩); go_simp; refine hK _ ?_; clear hK K)
  refine cls_call rfl (fun K hK => ⟨_, _, _, (fun w' => by go_simp <;> first | exact rfl | exact ⟨rfl, rfl⟩), (fun w' hw => calls_same hw (sSub_any _ _ _)), ?_⟩); go_simp; refine hK _ ?_; clear hK K
  repeat (refine cls_step rfl (fun K hK => ⟨_, (fun w' hw => by have q0 := (hxV.on hw hxV.lt).cell 0; have q1 := (hxV.on hw hxV.lt).cell 1; go_simp; exact rfl), ?_⟩); go_simp; refine hK _ ?_; clear hK K)
  refine cls_call rfl (fun K hK => ⟨_, _, _, (fun w' => by go_simp <;> first | exact rfl | exact ⟨rfl, rfl⟩), (fun w' hw => calls_same hw (HN.out _)), ?_⟩); go_simp; refine hK _ ?_; clear hK K
  repeat (refine cls_step rfl (fun K hK => ⟨_, (fun w' hw => by go_simp; exact rfl), ?_⟩); go_simp; refine hK _ ?_; clear hK K)
  refine wq_nil ?_
  intro w' hw
  have q0 := (hrV.on hw hrV.lt).cell 0
  have r0 := (hrV.on hw hrV.lt).free 0
  have q1 := (hrV.on hw hrV.lt).cell 1
  have r1 := (hrV.on hw hrV.lt).free 1
  go_wp2
  refine bodyPost_ret_by (result_blk rfl rfl (((hrV.on hw hrV.lt).set 0 _).set 1 _) Tryz.underlying103 infoT) rfl ⟨rfl, ((below_then hbb hw).setCell (by simp) _).setCell (by simp) _⟩

end Go.Proofs.YthnahalboomkoaaGreat

/-
  The walk of the specification's power two by two.
-/
namespace Go.Proofs.YthnahalboomkoaaGreat
open Go.RowKit

set_option maxHeartbeats 800000 in
set_option maxRecDepth 100000 in
theorem sPow2_neg (x : Int × Int) (n : Int) (hn : n < 0) (w : World) :
    Calls Tryz.prog 169 #[tv x, .int .i64 n] w fun e w' => e = .returned (tv (0, 0)) ∧ Below w.heap.size w w' := by
  go_enter Tryz.func169, Tryz.ntmps169
  go_wp2
  refine bodyPost_ret_by (result_blk rfl rfl (Blk.newAt (by simp)) Tryz.underlying103 infoT) rfl ⟨rfl, ((Below.refl _ _).alloc (Nat.le_refl _) _).alloc (by simp) _⟩

set_option maxHeartbeats 1600000 in
set_option maxRecDepth 100000 in
theorem sPow2_nat (x : Int × Int) (n : Nat) (hn : n ≤ 9223372036854775807) (w : World) :
    Calls Tryz.prog 169 #[tv x, .int .i64 (n : Int)] w fun e w' => e = .returned (tv (fp2 (gp x n))) ∧ Below w.heap.size w w' := by
  have hn0 : ¬ (n : Int) < 0 := by omega
  obtain ⟨R, hR⟩ : ∃ R, R = fp2 (gp x n) := ⟨_, rfl⟩
  rw [← hR]
  have HR : Hid (R = fp2 (gp (fp2 x) n)) := by rw [fp2_gp]; exact hR
  have HA : Hid (∀ w, Calls Tryz.prog 198 #[.int .i64 x.1] w fun e w' => e = .returned (.int .i64 (fp2 x).1) ∧ w = w') := sOf_any x.1
  have HB : Hid (∀ w, Calls Tryz.prog 198 #[.int .i64 x.2] w fun e w' => e = .returned (.int .i64 (fp2 x).2) ∧ w = w') := sOf_any x.2
  have HF : Hid (In2 (fp2 x)) := in2_fp2 x
  clear hR
  generalize fp2 x = f at HR HA HB HF
  go_enter Tryz.func169, Tryz.ntmps169
  go_wp2
  obtain ⟨W, hW, hb, hx, h4, h5⟩ := boxes2r w 103 103 103 #[.int .i64 x.1, .int .i64 x.2] #[.int .i64 0, .int .i64 0] #[.int .i64 1, .int .i64 0]
  rw [hW]
  clear hW
  refine wp_region_made 7 mixes (by kernel_rfl) rfl rfl (fun a w => by go_simp <;> rfl) ?_
  simp only [List.take_succ_cons, List.take_zero, List.drop_succ_cons, List.drop_zero]
  repeat (refine bel_step rfl (fun K hK => ⟨_, (fun w' hw => by have q0 := (hx.on hw hx.lt).cell 0; have q1 := (hx.on hw hx.lt).cell 1; go_simp; exact rfl), ?_⟩); go_simp; refine hK _ ?_; clear hK K)
  refine bel_call rfl (fun K hK => ⟨_, _, _, (fun w' => by go_simp <;> first | exact rfl | exact ⟨rfl, rfl⟩), (fun w' hw => bel_same (HA.out _)), ?_⟩); go_simp; refine hK _ ?_; clear hK K
  repeat (refine bel_step rfl (fun K hK => ⟨_, (fun w' hw => by have q0 := (hx.on hw hx.lt).cell 0; have q1 := (hx.on hw hx.lt).cell 1; go_simp; exact rfl), ?_⟩); go_simp; refine hK _ ?_; clear hK K)
  refine bel_call rfl (fun K hK => ⟨_, _, _, (fun w' => by go_simp <;> first | exact rfl | exact ⟨rfl, rfl⟩), (fun w' hw => bel_same (HB.out _)), ?_⟩); go_simp; refine hK _ ?_; clear hK K
  repeat (refine bel_step rfl (fun K hK => ⟨_, (fun w' hw => by go_simp; exact rfl), ?_⟩); go_simp; refine hK _ ?_; clear hK K)
  refine bel_nil ?_
  intro gn w' hw hgn hnew
  refine frame_out fun K hK => ?_
  go_simp
  refine hK _ ?_
  clear hK K
  have hgl : w.heap.size + 1 + 1 < gn := by have := h5.lt; omega
  go_wp2_with (refine store_blk (cs' := #[.int .i64 f.1, .int .i64 f.2]) rfl rfl rfl rfl rfl hnew infoT rfl (ones2 _ _) ?_; intro V h6V hoth hbel; have h4V := hoth _ _ _ (by omega) (h4.on hw h4.lt); have h5V := hoth _ _ _ (by omega) (h5.on hw h5.lt); have hbV := hbel _ _ (by omega) (below_then hb hw); clear hoth hbel hnew hgn hx h4 h5 hb hw)
  go_loopw [1] (fun m wr => ∃ (k : Nat) (r s : Int × Int), m = .int .i64 (k : Int) ∧ k ≤ n ∧ Blk wr (w.heap.size + 1) 103 #[.int .i64 0, .int .i64 0] ∧ Blk wr (w.heap.size + 1 + 1) 103 #[.int .i64 r.1, .int .i64 r.2] ∧ Blk wr gn 103 #[.int .i64 s.1, .int .i64 s.2] ∧ Hid (In2 r ∧ In2 s) ∧ Hid (fp2 (gm r (gp s k)) = R) ∧ Below w.heap.size w wr) (fun m _ => (intOf m).toNat)
  case atStart => exact ⟨n, (1, 0), f, rfl, Nat.le_refl _, h4V, h5V, h6V, ⟨⟨⟨by decide, by decide⟩, by decide, by decide⟩, HF.out⟩, (show fp2 (gm (1, 0) (gp f n)) = R by rw [one_gm, HR.out]), hbV⟩
  case round =>
    clear h4V h5V h6V hbV
    obtain ⟨k, r, s, rfl, hk, h4, h5, h6, HIn, HP, hb⟩ := hrel
    by_cases h0 : 0 < k
    · have h0' : (0 : Int) < (k : Int) := by omega
      have hq : Int.tdiv (k : Int) 2 = ((k / 2 : Nat) : Int) := by rw [Int.tdiv_eq_ediv_of_nonneg (by omega)]; omega
      have hqb : k / 2 < k := by omega
      have HS2 : Hid (In2 (tm s s)) := in2_fp2 _
      have HR2 : Hid (In2 (tm r s)) := in2_fp2 _
      have HC : Hid (∀ w, Calls Tryz.prog 103 #[tv r, tv s] w fun e w' => e = .returned (tv (tm r s)) ∧ Below w.heap.size w w') := sMul2_any r s
      have HD : Hid (∀ w, Calls Tryz.prog 103 #[tv s, tv s] w fun e w' => e = .returned (tv (tm s s)) ∧ Below w.heap.size w w') := sMul2_any s s
      by_cases h2 : k % 2 = 1
      · have h2' : Int.tmod (k : Int) 2 = 1 := by rw [Int.tmod_eq_emod_of_nonneg (by omega)]; omega
        have HN : Hid (fp2 (gm (tm r s) (gp (tm s s) (k / 2))) = R) := (tp_odd r s k h2).trans HP.out
        generalize tm r s = r2 at HN HC HR2
        generalize tm s s = s2 at HN HD HS2
        generalize k / 2 = k2 at HN hq hqb
        clear h2 HP
        go_wp2_with (first | (refine load_blk rfl rfl rfl h5 Tryz.underlying103 infoT ?_) | (refine load_blk rfl rfl rfl h6 Tryz.underlying103 infoT ?_))
        refine (HC.out _).mono ?_
        rintro e w1 ⟨rfl, hb1⟩
        have h4a := h4.on hb1 h4.lt
        have h5a := h5.on hb1 h5.lt
        have h6a := h6.on hb1 h6.lt
        have hba := below_then hb hb1
        clear h4 h5 h6 hb hb1
        go_wp2_with (first | (refine store_blk (cs' := #[.int .i64 r2.1, .int .i64 r2.2]) rfl rfl rfl rfl rfl h5a infoT rfl (ones2 _ _) ?_; intro w2 h5b hoth hbel; have h4b := hoth _ _ _ (by omega) h4a; have h6b := hoth _ _ _ (by omega) h6a; have hbb := hbel _ _ (by omega) hba; clear h4a h5a h6a hba hoth hbel) | (refine load_blk rfl rfl rfl h6b Tryz.underlying103 infoT ?_))
        refine (HD.out _).mono ?_
        rintro e w3 ⟨rfl, hb3⟩
        have h4c := h4b.on hb3 h4b.lt
        have h5c := h5b.on hb3 h5b.lt
        have h6c := h6b.on hb3 h6b.lt
        have hbc := below_then hbb hb3
        clear h4b h5b h6b hbb hb3
        go_wp2_with (refine store_blk (cs' := #[.int .i64 s2.1, .int .i64 s2.2]) rfl rfl rfl rfl rfl h6c infoT rfl (ones2 _ _) ?_; intro w4 h6d hoth hbel; have h4d := hoth _ _ _ (by omega) h4c; have h5d := hoth _ _ _ (by omega) h5c; have hbd := hbel _ _ (by omega) hbc; clear h4c h5c h6c hbc hoth hbel)
        go_roundw
        case rel => exact ⟨k2, r2, s2, by go_num, by omega, h4d, h5d, h6d, ⟨HR2.out, HS2.out⟩, HN, hbd⟩
        case measure => simp [intOf]; omega
      · have h2' : Int.tmod (k : Int) 2 = 0 := by rw [Int.tmod_eq_emod_of_nonneg (by omega)]; omega
        have HN : Hid (fp2 (gm r (gp (tm s s) (k / 2))) = R) := (tp_even r s k (by omega)).trans HP.out
        generalize tm s s = s2 at HN HD HS2
        generalize k / 2 = k2 at HN hq hqb
        clear h2 HP
        go_wp2_with (refine load_blk rfl rfl rfl h6 Tryz.underlying103 infoT ?_)
        refine (HD.out _).mono ?_
        rintro e w3 ⟨rfl, hb3⟩
        have h4c := h4.on hb3 h4.lt
        have h5c := h5.on hb3 h5.lt
        have h6c := h6.on hb3 h6.lt
        have hbc := below_then hb hb3
        clear h4 h5 h6 hb hb3
        go_wp2_with (refine store_blk (cs' := #[.int .i64 s2.1, .int .i64 s2.2]) rfl rfl rfl rfl rfl h6c infoT rfl (ones2 _ _) ?_; intro w4 h6d hoth hbel; have h4d := hoth _ _ _ (by omega) h4c; have h5d := hoth _ _ _ (by omega) h5c; have hbd := hbel _ _ (by omega) hbc; clear h4c h5c h6c hbc hoth hbel)
        go_roundw
        case rel => exact ⟨k2, r, s2, by go_num, by omega, h4d, h5d, h6d, ⟨HIn.out.1, HS2.out⟩, HN, hbd⟩
        case measure => simp [intOf]; omega
    · have h0' : ¬ (0 : Int) < (k : Int) := by omega
      obtain rfl : k = 0 := by omega
      have HE : Hid (R = r) := by
        have h := HP.out
        rw [show gp s 0 = (1, 0) from rfl, gm_one, fp2_in HIn.out.1] at h
        exact h.symm
      clear HP
      go_wp2_with (first | (refine load_blk rfl rfl rfl h5 Tryz.underlying103 infoT ?_) | (refine store_blk (cs' := #[.int .i64 r.1, .int .i64 r.2]) rfl rfl rfl rfl rfl h4 infoT rfl (ones2 _ _) ?_; intro w2 h4b hoth hbel; have hbb := hbel _ _ (by omega) hb; clear hoth hbel h4 h6 hb))
      refine bodyPost_ret_by (result_blk rfl rfl h4b Tryz.underlying103 infoT) rfl ⟨by rw [HE.out], hbb⟩

theorem sPow2_any (x : Int × Int) (n : Int) (hn : n ≤ 9223372036854775807) (w : World) :
    Calls Tryz.prog 169 #[tv x, .int .i64 n] w fun e w' => e = .returned (tv (tp x n)) ∧ Below w.heap.size w w' := by
  by_cases h : n < 0
  · rw [tp_neg x h]; exact sPow2_neg x n h w
  · obtain ⟨k, rfl⟩ : ∃ k : Nat, n = k := ⟨n.toNat, by omega⟩
    rw [tp_nat]
    exact sPow2_nat x k (by omega) w

end Go.Proofs.YthnahalboomkoaaGreat
