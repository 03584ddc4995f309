/-
  The walks of the program's numbers two by two.
  (-DROP-: what the seat lacks is left out.)
-/
import Derived.Test.YthnahalboomkoaaGreatJoined1
import Derived.Test.YthnahalboomkoaaGreatJoined3

namespace Go.Proofs.YthnahalboomkoaaGreat
open Go.RowKit

theorem infoN : (Tryz.prog.info? 160).map (·.size) = some 2 := by kernel_rfl

theorem infoT : (Tryz.prog.info? 103).map (·.size) = some 2 := by kernel_rfl

/-- A number of two parts, as a value. -/
abbrev tv (x : Int × Int) : Value := .agg #[.int .i64 x.1, .int .i64 x.2]
theorem ones2 (a b : Int) : (#[Value.int .i64 a, Value.int .i64 b]).all (·.oneCell') = true := by simp [Value.oneCell']
theorem fp_sub_fp (a b : Int) : fp (fp a - fp b) = fp (a - b) := by unfold fp; simp

set_option maxHeartbeats 800000 in
set_option maxRecDepth 100000 in
theorem times2_any (x y : Int × Int) (hx2 : In2 x) (hy2 : In2 y) (w : World) :
    Calls Tryz.prog 134 #[tv x, tv y] w fun e w' => e = .returned (tv (tm x y)) ∧ Below w.heap.size w w' := by
  obtain ⟨a, b⟩ := x
  obtain ⟨c, d⟩ := y
  obtain ⟨⟨a0, a1⟩, b0, b1⟩ := hx2
  obtain ⟨⟨c0, c1⟩, d0, d1⟩ := hy2
  simp only at a0 a1 b0 b1 c0 c1 d0 d1
  have HAC : Hid (∀ w, Calls Tryz.prog 142 #[.int .i64 a, .int .i64 c] w fun e w' => e = .returned (.int .i64 (fp (a * c))) ∧ w = w') := times_any a c a0 a1 c0 c1
  have HBD : Hid (∀ w, Calls Tryz.prog 142 #[.int .i64 b, .int .i64 d] w fun e w' => e = .returned (.int .i64 (fp (b * d))) ∧ w = w') := times_any b d b0 b1 d0 d1
  have HAD : Hid (∀ w, Calls Tryz.prog 142 #[.int .i64 a, .int .i64 d] w fun e w' => e = .returned (.int .i64 (fp (a * d))) ∧ w = w') := times_any a d a0 a1 d0 d1
  have HBC : Hid (∀ w, Calls Tryz.prog 142 #[.int .i64 b, .int .i64 c] w fun e w' => e = .returned (.int .i64 (fp (b * c))) ∧ w = w') := times_any b c b0 b1 c0 c1
  have HM : Hid (∀ w, Calls Tryz.prog 144 #[.int .i64 (fp (a * c)), .int .i64 (fp (b * d))] w fun e w' => e = .returned (.int .i64 (fp (a * c - b * d))) ∧ w = w') := by
    rw [← fp_sub_fp]; exact minus_any _ _ (fp_nonneg _) (fp_lt _) (fp_nonneg _) (fp_lt _)
  have HP : Hid (∀ w, Calls Tryz.prog 185 #[.int .i64 (fp (a * d)), .int .i64 (fp (b * c))] w fun e w' => e = .returned (.int .i64 (fp (a * d + b * c))) ∧ w = w') := by
    rw [← fp_add_fp]; exact plus_any _ _ (fp_nonneg _) (fp_lt _) (fp_nonneg _) (fp_lt _)
  clear a0 a1 b0 b1 c0 c1 d0 d1
  go_enter Tryz.func134, Tryz.ntmps134
  go_wp2
  obtain ⟨W, hW, hb, hx, hy, hr⟩ := boxes2r w 160 160 160 #[.int .i64 a, .int .i64 b] #[.int .i64 c, .int .i64 d] #[.int .i64 0, .int .i64 0]
  rw [hW]
  clear hW
  refine wp_region_class 23 (fun wz => Below W.heap.size W wz) mixes (by kernel_rfl) (Below.refl _ _).drew ?_
  simp only [List.take_succ_cons, List.take_zero, List.drop_succ_cons, List.drop_zero]
  repeat (refine cls_step rfl (fun K hK => ⟨_, (fun w' hw => by have q0 := (hx.on hw hx.lt).cell 0; have q1 := (hx.on hw hx.lt).cell 1; have q2 := (hy.on hw hy.lt).cell 0; have q3 := (hy.on hw hy.lt).cell 1; go_simp; exact rfl), ?_⟩); go_simp; refine hK _ ?_; clear hK K)
  refine cls_call rfl (fun K hK => ⟨_, _, _, (fun w' => by go_simp <;> first | exact rfl | exact ⟨rfl, rfl⟩), (fun w' hw => calls_same hw (HAC.out _)), ?_⟩); go_simp; refine hK _ ?_; clear hK K
  repeat (refine cls_step rfl (fun K hK => ⟨_, (fun w' hw => by have q0 := (hx.on hw hx.lt).cell 0; have q1 := (hx.on hw hx.lt).cell 1; have q2 := (hy.on hw hy.lt).cell 0; have q3 := (hy.on hw hy.lt).cell 1; go_simp; exact rfl), ?_⟩); go_simp; refine hK _ ?_; clear hK K)
  refine cls_call rfl (fun K hK => ⟨_, _, _, (fun w' => by go_simp <;> first | exact rfl | exact ⟨rfl, rfl⟩), (fun w' hw => calls_same hw (HBD.out _)), ?_⟩); go_simp; refine hK _ ?_; clear hK K
  refine cls_call rfl (fun K hK => ⟨_, _, _, (fun w' => by go_simp <;> first | exact rfl | exact ⟨rfl, rfl⟩), (fun w' hw => calls_same hw (HM.out _)), ?_⟩); go_simp; refine hK _ ?_; clear hK K
  repeat (refine cls_step rfl (fun K hK => ⟨_, (fun w' hw => by have q0 := (hx.on hw hx.lt).cell 0; have q1 := (hx.on hw hx.lt).cell 1; have q2 := (hy.on hw hy.lt).cell 0; have q3 := (hy.on hw hy.lt).cell 1; go_simp; exact rfl), ?_⟩); go_simp; refine hK _ ?_; clear hK K)
  refine cls_call rfl (fun K hK => ⟨_, _, _, (fun w' => by go_simp <;> first | exact rfl | exact ⟨rfl, rfl⟩), (fun w' hw => calls_same hw (HAD.out _)), ?_⟩); go_simp; refine hK _ ?_; clear hK K
  repeat (refine cls_step rfl (fun K hK => ⟨_, (fun w' hw => by have q0 := (hx.on hw hx.lt).cell 0; have q1 := (hx.on hw hx.lt).cell 1; have q2 := (hy.on hw hy.lt).cell 0; have q3 := (hy.on hw hy.lt).cell 1; go_simp; exact rfl), ?_⟩); go_simp; refine hK _ ?_; clear hK K)
  refine cls_call rfl (fun K hK => ⟨_, _, _, (fun w' => by go_simp <;> first | exact rfl | exact ⟨rfl, rfl⟩), (fun w' hw => calls_same hw (HBC.out _)), ?_⟩); go_simp; refine hK _ ?_; clear hK K
  refine cls_call rfl (fun K hK => ⟨_, _, _, (fun w' => by go_simp <;> first | exact rfl | exact ⟨rfl, rfl⟩), (fun w' hw => calls_same hw (HP.out _)), ?_⟩); go_simp; refine hK _ ?_; clear hK K
  repeat (refine cls_step rfl (fun K hK => ⟨_, (fun w' hw => by go_simp; exact rfl), ?_⟩); go_simp; refine hK _ ?_; clear hK K)
  refine wq_nil ?_
  intro w' hw
  have q0 := (hr.on hw hr.lt).cell 0
  have r0 := (hr.on hw hr.lt).free 0
  have q1 := (hr.on hw hr.lt).cell 1
  have r1 := (hr.on hw hr.lt).free 1
  go_wp2
  refine bodyPost_ret_by (result_blk rfl rfl (((hr.on hw hr.lt).set 0 _).set 1 _) Tryz.underlying160 infoN) rfl ⟨rfl, ((hb.trans (hw.mono hb.size)).setCell (by simp; omega) _).setCell (by simp; omega) _⟩

set_option maxHeartbeats 800000 in
set_option maxRecDepth 100000 in
theorem twoOf_any (x : Int × Int) (w : World) :
    Calls Tryz.prog 133 #[tv x] w fun e w' => e = .returned (tv (fp2 x)) ∧ Below w.heap.size w w' := by
  obtain ⟨a, b⟩ := x
  go_enter Tryz.func133, Tryz.ntmps133
  go_wp2
  obtain ⟨W, hW, hb, hx, hr⟩ := boxes1r w 103 160 #[.int .i64 a, .int .i64 b] #[.int .i64 0, .int .i64 0]
  rw [hW]
  clear hW
  refine wp_region_class 7 (fun wz => Below W.heap.size W wz) mixes (by kernel_rfl) (Below.refl _ _).drew ?_
  simp only [List.take_succ_cons, List.take_zero, List.drop_succ_cons, List.drop_zero]
  repeat (refine cls_step rfl (fun K hK => ⟨_, (fun w' hw => by have q0 := (hx.on hw hx.lt).cell 0; have q1 := (hx.on hw hx.lt).cell 1; go_simp; exact rfl), ?_⟩); go_simp; refine hK _ ?_; clear hK K)
  refine cls_call rfl (fun K hK => ⟨_, _, _, (fun w' => by go_simp <;> first | exact rfl | exact ⟨rfl, rfl⟩), (fun w' hw => calls_same hw (fieldOf_any _ _)), ?_⟩); go_simp; refine hK _ ?_; clear hK K
  repeat (refine cls_step rfl (fun K hK => ⟨_, (fun w' hw => by have q0 := (hx.on hw hx.lt).cell 0; have q1 := (hx.on hw hx.lt).cell 1; go_simp; exact rfl), ?_⟩); go_simp; refine hK _ ?_; clear hK K)
  refine cls_call rfl (fun K hK => ⟨_, _, _, (fun w' => by go_simp <;> first | exact rfl | exact ⟨rfl, rfl⟩), (fun w' hw => calls_same hw (fieldOf_any _ _)), ?_⟩); go_simp; refine hK _ ?_; clear hK K
  repeat (refine cls_step rfl (fun K hK => ⟨_, (fun w' hw => by go_simp; exact rfl), ?_⟩); go_simp; refine hK _ ?_; clear hK K)
  refine wq_nil ?_
  intro w' hw
  have q0 := (hr.on hw hr.lt).cell 0
  have r0 := (hr.on hw hr.lt).free 0
  have q1 := (hr.on hw hr.lt).cell 1
  have r1 := (hr.on hw hr.lt).free 1
  go_wp2
  refine bodyPost_ret_by (result_blk rfl rfl (((hr.on hw hr.lt).set 0 _).set 1 _) Tryz.underlying160 infoN) rfl ⟨rfl, ((hb.trans (hw.mono hb.size)).setCell (by simp) _).setCell (by simp) _⟩

set_option maxHeartbeats 800000 in
set_option maxRecDepth 100000 in
theorem two_any (x : Int × Int) (w : World) :
    Calls Tryz.prog 135 #[tv x] w fun e w' => e = .returned (tv x) ∧ Below w.heap.size w w' := by
  obtain ⟨a, b⟩ := x
  go_enter Tryz.func135, Tryz.ntmps135
  go_wp2
  refine bodyPost_ret_by (result_blk rfl rfl (Blk.newAt (by simp)) Tryz.underlying103 infoT) rfl ⟨rfl, ((Below.refl _ _).alloc (Nat.le_refl _) _).alloc (by simp) _⟩

set_option maxHeartbeats 800000 in
set_option maxRecDepth 100000 in
theorem turned_any (x : Int × Int) (hx2 : In2 x) (w : World) :
    Calls Tryz.prog 187 #[tv x] w fun e w' => e = .returned (tv (tt x)) ∧ Below w.heap.size w w' := by
  obtain ⟨a, b⟩ := x
  have HM : Hid (∀ w, Calls Tryz.prog 144 #[.int .i64 0, .int .i64 b] w fun e w' => e = .returned (.int .i64 (fp (0 - b))) ∧ w = w') := minus_any 0 b (by decide) (by decide) hx2.2.1 hx2.2.2
  clear hx2
  go_enter Tryz.func187, Tryz.ntmps187
  go_wp2
  obtain ⟨W, hW, hb, hx, hr⟩ := boxes1r w 160 160 #[.int .i64 a, .int .i64 b] #[.int .i64 0, .int .i64 0]
  rw [hW]
  clear hW
  refine wp_region_class 6 (fun wz => Below W.heap.size W wz) mixes (by kernel_rfl) (Below.refl _ _).drew ?_
  simp only [List.take_succ_cons, List.take_zero, List.drop_succ_cons, List.drop_zero]
  repeat (refine cls_step rfl (fun K hK => ⟨_, (fun w' hw => by have q0 := (hx.on hw hx.lt).cell 0; have q1 := (hx.on hw hx.lt).cell 1; go_simp; exact rfl), ?_⟩); go_simp; refine hK _ ?_; clear hK K)
  refine cls_call rfl (fun K hK => ⟨_, _, _, (fun w' => by go_simp <;> first | exact rfl | exact ⟨rfl, rfl⟩), (fun w' hw => calls_same hw (HM.out _)), ?_⟩); go_simp; refine hK _ ?_; clear hK K
  repeat (refine cls_step rfl (fun K hK => ⟨_, (fun w' hw => by go_simp; exact rfl), ?_⟩); go_simp; refine hK _ ?_; clear hK K)
  refine wq_nil ?_
  intro w' hw
  have q0 := (hr.on hw hr.lt).cell 0
  have r0 := (hr.on hw hr.lt).free 0
  have q1 := (hr.on hw hr.lt).cell 1
  have r1 := (hr.on hw hr.lt).free 1
  go_wp2
  refine bodyPost_ret_by (result_blk rfl rfl (((hr.on hw hr.lt).set 0 _).set 1 _) Tryz.underlying160 infoN) rfl ⟨by simp [tt], ((hb.trans (hw.mono hb.size)).setCell (by simp) _).setCell (by simp) _⟩

set_option maxHeartbeats 800000 in
set_option maxRecDepth 100000 in
theorem iMul2_any (x y : Int × Int) (w : World) :
    Calls Tryz.prog 61 #[tv x, tv y] w fun e w' => e = .returned (tv (tm x y)) ∧ Below w.heap.size w w' := by
  have HT : Hid (∀ w, Calls Tryz.prog 134 #[tv (fp2 x), tv (fp2 y)] w fun e w' => e = .returned (tv (tm x y)) ∧ Below w.heap.size w w') := by
    rw [show tm x y = tm (fp2 x) (fp2 y) from (fp2_gm x y).symm]
    exact times2_any _ _ (in2_fp2 _) (in2_fp2 _)
  go_enter Tryz.func61, Tryz.ntmps61
  go_wp2
  obtain ⟨W, hW, hb, hx, hy, hr⟩ := boxes2r w 103 103 103 #[.int .i64 x.1, .int .i64 x.2] #[.int .i64 y.1, .int .i64 y.2] #[.int .i64 0, .int .i64 0]
  rw [hW]
  clear hW
  refine wp_region_class 6 (fun wz => Below W.heap.size W wz) mixes (by kernel_rfl) (Below.refl _ _).drew ?_
  simp only [List.take_succ_cons, List.take_zero, List.drop_succ_cons, List.drop_zero]
  repeat (refine cls_step rfl (fun K hK => ⟨_, (fun w' hw => by have q0 := (hx.on hw hx.lt).cell 0; have q1 := (hx.on hw hx.lt).cell 1; have q2 := (hy.on hw hy.lt).cell 0; have q3 := (hy.on hw hy.lt).cell 1; go_simp; exact rfl), ?_⟩); go_simp; refine hK _ ?_; clear hK K)
  refine cls_call rfl (fun K hK => ⟨_, _, _, (fun w' => by go_simp <;> first | exact rfl | exact ⟨rfl, rfl⟩), (fun w' hw => calls_below hw (twoOf_any x _)), ?_⟩); go_simp; refine hK _ ?_; clear hK K
  repeat (refine cls_step rfl (fun K hK => ⟨_, (fun w' hw => by have q0 := (hx.on hw hx.lt).cell 0; have q1 := (hx.on hw hx.lt).cell 1; have q2 := (hy.on hw hy.lt).cell 0; have q3 := (hy.on hw hy.lt).cell 1; go_simp; exact rfl), ?_⟩); go_simp; refine hK _ ?_; clear hK K)
  refine cls_call rfl (fun K hK => ⟨_, _, _, (fun w' => by go_simp <;> first | exact rfl | exact ⟨rfl, rfl⟩), (fun w' hw => calls_below hw (twoOf_any y _)), ?_⟩); go_simp; refine hK _ ?_; clear hK K
  refine cls_call rfl (fun K hK => ⟨_, _, _, (fun w' => by go_simp <;> first | exact rfl | exact ⟨rfl, rfl⟩), (fun w' hw => calls_below hw (HT.out _)), ?_⟩); go_simp; refine hK _ ?_; clear hK K
  refine cls_call rfl (fun K hK => ⟨_, _, _, (fun w' => by go_simp <;> first | exact rfl | exact ⟨rfl, rfl⟩), (fun w' hw => calls_below hw (two_any (tm x y) _)), ?_⟩); go_simp; refine hK _ ?_; clear hK K
  refine wq_nil ?_
  intro w' hw
  have q0 := (hr.on hw hr.lt).cell 0
  have r0 := (hr.on hw hr.lt).free 0
  have q1 := (hr.on hw hr.lt).cell 1
  have r1 := (hr.on hw hr.lt).free 1
  go_wp2
  refine bodyPost_ret_by (result_blk rfl rfl (((hr.on hw hr.lt).set 0 _).set 1 _) Tryz.underlying103 infoT) rfl ⟨rfl, ((hb.trans (hw.mono hb.size)).setCell (by simp; omega) _).setCell (by simp; omega) _⟩

end Go.Proofs.YthnahalboomkoaaGreat
