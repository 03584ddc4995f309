/-
  The walks of the program's places on the curve: slopes and sums.
  (-DROP-: what the seat lacks is left out.)
-/
import Derived.Test.YtbkfdafdchjakaaJoined17

namespace Go.Proofs.Ytbkfdafdchjakaa
open Go.RowKit

theorem slopeT_as (x y : Int) : fpMul (fpAdd (fpMul (fpMul x x) 3) 1) (fpPow (fpAdd y y) 12105) = slopeT x y := by
  unfold slopeT
  rw [show fpMul (fpMul x x) 3 = fpMul 3 (fpMul x x) by rw [fpMul_eq, fpMul_eq 3, Int.mul_comm], show fpAdd y y = fpMul 2 y by rw [fpAdd_eq, fpMul_eq, Int.two_mul]]

set_option maxHeartbeats 1600000 in
set_option maxRecDepth 100000 in
theorem slopeTo_any (b c : Nat) (x y u v : Int) (w : World) (hx : Blk w b 127 #[.int .i64 x, .int .i64 y]) (hy : Blk w c 127 #[.int .i64 u, .int .i64 v]) (fx : Fi x) (fy : Fi y) (fu : Fi u) (fv : Fi v) :
    Calls Try.prog 100 #[.pointer (some ⟨b, 0, none⟩), .pointer (some ⟨c, 0, none⟩)] w fun e w' => e = .returned (.tuple #[.int .i64 (pSlope (x, y, false) (u, v, false)).1, .bool (pSlope (x, y, false) (u, v, false)).2]) ∧ Below w.heap.size w w' := by
  have Fx : Hid (Fi x) := fx
  have Fy : Hid (Fi y) := fy
  have Fu : Hid (Fi u) := fu
  have Fv : Hid (Fi v) := fv
  clear fx fy fu fv
  unfold pSlope
  by_cases h1 : x = u
  · subst h1
    simp only [ne_eq, not_true_eq_false, if_false]
    have HS : Hid (∀ w, Calls Try.prog 87 #[.int .i64 y, .int .i64 v] w fun e w' => e = .returned (.int .i64 (fpAdd y v)) ∧ w = w') := fun w => plus_f Fy.out Fv.out w
    generalize fpAdd y v = s at HS ⊢
    by_cases h2 : s = 0
    · subst h2
      rw [if_pos rfl]
      go_enter Try.func100, Try.ntmps100
      go_wp2_with fail
      refine wp_region_class 8 (fun wz => Below w.heap.size w wz) mixes (by kernel_rfl) (Below.refl _ _).drew ?_
      simp only [List.take_succ_cons, List.take_zero, List.drop_succ_cons, List.drop_zero]
      repeat (refine cls_step rfl (fun K hK => ⟨_, (fun w' hw => by have q0 := (hx.on hw hx.lt).cell 0; have q1 := (hy.on hw hy.lt).cell 0; go_simp; exact rfl), ?_⟩); go_simp; refine hK _ ?_; clear hK K)
      refine wq_nil ?_
      intro w' hw
      have hx1 := hx.on hw hx.lt
      have hy1 := hy.on hw hy.lt
      have hB1 := hw
      clear hx hy hw
      go_wp2_with fail
      refine wp_region_class 9 (fun wz => Below w'.heap.size w' wz) mixes (by kernel_rfl) (Below.refl _ _).drew ?_
      simp only [List.take_succ_cons, List.take_zero, List.drop_succ_cons, List.drop_zero]
      repeat (refine cls_step rfl (fun K hK => ⟨_, (fun w' hw => by have q0 := (hx1.on hw hx1.lt).cell 0; have q1 := (hx1.on hw hx1.lt).cell 1; have q2 := (hy1.on hw hy1.lt).cell 0; have q3 := (hy1.on hw hy1.lt).cell 1; go_simp; exact rfl), ?_⟩); go_simp; refine hK _ ?_; clear hK K)
      refine cls_call rfl (fun K hK => ⟨_, _, _, (fun w' => by go_simp <;> first | exact rfl | exact ⟨rfl, rfl⟩), (fun w' hw => calls_same hw (HS.out _)), ?_⟩); go_simp; refine hK _ ?_; clear hK K
      refine wq_nil ?_
      intro w' hw
      have hB2 := below_then hB1 hw
      clear hx1 hy1 hB1 hw
      go_wp2
      go_ret2
      exact ⟨rfl, hB2⟩
    · rw [if_neg h2]
      have h2' : (s == 0) = false := by simp [h2]
      have HT : Hid (fpMul (fpAdd (fpMul (fpMul x x) 3) 1) (fpPow (fpAdd y y) 12105) = slopeT x y) := slopeT_as x y
      go_enter Try.func100, Try.ntmps100
      go_wp2_with fail
      refine wp_region_class 8 (fun wz => Below w.heap.size w wz) mixes (by kernel_rfl) (Below.refl _ _).drew ?_
      simp only [List.take_succ_cons, List.take_zero, List.drop_succ_cons, List.drop_zero]
      repeat (refine cls_step rfl (fun K hK => ⟨_, (fun w' hw => by have q0 := (hx.on hw hx.lt).cell 0; have q1 := (hy.on hw hy.lt).cell 0; go_simp; exact rfl), ?_⟩); go_simp; refine hK _ ?_; clear hK K)
      refine wq_nil ?_
      intro w' hw
      have hx1 := hx.on hw hx.lt
      have hy1 := hy.on hw hy.lt
      have hB1 := hw
      clear hx hy hw
      go_wp2_with fail
      refine wp_region_class 9 (fun wz => Below w'.heap.size w' wz) mixes (by kernel_rfl) (Below.refl _ _).drew ?_
      simp only [List.take_succ_cons, List.take_zero, List.drop_succ_cons, List.drop_zero]
      repeat (refine cls_step rfl (fun K hK => ⟨_, (fun w' hw => by have q0 := (hx1.on hw hx1.lt).cell 0; have q1 := (hx1.on hw hx1.lt).cell 1; have q2 := (hy1.on hw hy1.lt).cell 0; have q3 := (hy1.on hw hy1.lt).cell 1; go_simp; exact rfl), ?_⟩); go_simp; refine hK _ ?_; clear hK K)
      refine cls_call rfl (fun K hK => ⟨_, _, _, (fun w' => by go_simp <;> first | exact rfl | exact ⟨rfl, rfl⟩), (fun w' hw => calls_same hw (HS.out _)), ?_⟩); go_simp; refine hK _ ?_; clear hK K
      refine wq_nil ?_
      intro w' hw
      have hx2 := hx1.on hw hx1.lt
      have hB2 := below_then hB1 hw
      clear hx1 hy1 hB1 hw
      go_wp2_with fail
      refine wp_region_class 11 (fun wz => Below w'.heap.size w' wz) mixes (by kernel_rfl) (Below.refl _ _).drew ?_
      simp only [List.take_succ_cons, List.take_zero, List.drop_succ_cons, List.drop_zero]
      repeat (refine cls_step rfl (fun K hK => ⟨_, (fun w' hw => by have q0 := (hx2.on hw hx2.lt).cell 0; have q1 := (hx2.on hw hx2.lt).cell 1; go_simp; exact rfl), ?_⟩); go_simp; refine hK _ ?_; clear hK K)
      refine cls_call rfl (fun K hK => ⟨_, _, _, (fun w' => by go_simp <;> first | exact rfl | exact ⟨rfl, rfl⟩), (fun w' hw => calls_same hw (times_f Fx.out Fx.out _)), ?_⟩); go_simp; refine hK _ ?_; clear hK K
      refine cls_call rfl (fun K hK => ⟨_, _, _, (fun w' => by go_simp <;> first | exact rfl | exact ⟨rfl, rfl⟩), (fun w' hw => calls_same hw (times_f (fi_mul _ _) fi_3 _)), ?_⟩); go_simp; refine hK _ ?_; clear hK K
      refine cls_call rfl (fun K hK => ⟨_, _, _, (fun w' => by go_simp <;> first | exact rfl | exact ⟨rfl, rfl⟩), (fun w' hw => calls_same hw (plus_f (fi_mul _ _) fi_1 _)), ?_⟩); go_simp; refine hK _ ?_; clear hK K
      refine wq_nil ?_
      intro w' hw
      have hx3 := hx2.on hw hx2.lt
      have hB3 := below_then hB2 hw
      clear hx2 hB2 hw
      go_wp2_with fail
      refine wp_region_class 12 (fun wz => Below w'.heap.size w' wz) mixes (by kernel_rfl) (Below.refl _ _).drew ?_
      simp only [List.take_succ_cons, List.take_zero, List.drop_succ_cons, List.drop_zero]
      repeat (refine cls_step rfl (fun K hK => ⟨_, (fun w' hw => by have q0 := (hx3.on hw hx3.lt).cell 0; have q1 := (hx3.on hw hx3.lt).cell 1; go_simp; exact rfl), ?_⟩); go_simp; refine hK _ ?_; clear hK K)
      refine cls_call rfl (fun K hK => ⟨_, _, _, (fun w' => by go_simp <;> first | exact rfl | exact ⟨rfl, rfl⟩), (fun w' hw => calls_same hw (plus_f Fy.out Fy.out _)), ?_⟩); go_simp; refine hK _ ?_; clear hK K
      refine cls_call rfl (fun K hK => ⟨_, _, _, (fun w' => by go_simp <;> first | exact rfl | exact ⟨rfl, rfl⟩), (fun w' hw => calls_same hw (inverse_f (fi_add _ _) _)), ?_⟩); go_simp; refine hK _ ?_; clear hK K
      refine cls_call rfl (fun K hK => ⟨_, _, _, (fun w' => by go_simp <;> first | exact rfl | exact ⟨rfl, rfl⟩), (fun w' hw => calls_same hw (times_f (fi_add _ _) (fi_pow _ _) _)), ?_⟩); go_simp; refine hK _ ?_; clear hK K
      refine wq_nil ?_
      intro w' hw
      have hB4 := below_then hB3 hw
      clear hx3 hB3 hw
      go_wp2
      go_ret2
      exact ⟨by rw [← HT.out]; rfl, hB4⟩
  · have h1' : (x == u) = false := by simp [h1]
    simp only [ne_eq, h1, not_false_eq_true, if_true]
    go_enter Try.func100, Try.ntmps100
    go_wp2_with fail
    refine wp_region_class 8 (fun wz => Below w.heap.size w wz) mixes (by kernel_rfl) (Below.refl _ _).drew ?_
    simp only [List.take_succ_cons, List.take_zero, List.drop_succ_cons, List.drop_zero]
    repeat (refine cls_step rfl (fun K hK => ⟨_, (fun w' hw => by have q0 := (hx.on hw hx.lt).cell 0; have q1 := (hy.on hw hy.lt).cell 0; go_simp; exact rfl), ?_⟩); go_simp; refine hK _ ?_; clear hK K)
    refine wq_nil ?_
    intro w' hw
    have hx1 := hx.on hw hx.lt
    have hy1 := hy.on hw hy.lt
    have hB1 := hw
    clear hx hy hw
    go_wp2_with fail
    refine wp_region_class 20 (fun wz => Below w'.heap.size w' wz) mixes (by kernel_rfl) (Below.refl _ _).drew ?_
    simp only [List.take_succ_cons, List.take_zero, List.drop_succ_cons, List.drop_zero]
    repeat (refine cls_step rfl (fun K hK => ⟨_, (fun w' hw => by have q0 := (hx1.on hw hx1.lt).cell 0; have q1 := (hx1.on hw hx1.lt).cell 1; have q2 := (hy1.on hw hy1.lt).cell 0; have q3 := (hy1.on hw hy1.lt).cell 1; go_simp; exact rfl), ?_⟩); go_simp; refine hK _ ?_; clear hK K)
    refine cls_call rfl (fun K hK => ⟨_, _, _, (fun w' => by go_simp <;> first | exact rfl | exact ⟨rfl, rfl⟩), (fun w' hw => calls_same hw (minus_f Fv.out Fy.out _)), ?_⟩); go_simp; refine hK _ ?_; clear hK K
    repeat (refine cls_step rfl (fun K hK => ⟨_, (fun w' hw => by have q0 := (hx1.on hw hx1.lt).cell 0; have q1 := (hx1.on hw hx1.lt).cell 1; have q2 := (hy1.on hw hy1.lt).cell 0; have q3 := (hy1.on hw hy1.lt).cell 1; go_simp; exact rfl), ?_⟩); go_simp; refine hK _ ?_; clear hK K)
    refine cls_call rfl (fun K hK => ⟨_, _, _, (fun w' => by go_simp <;> first | exact rfl | exact ⟨rfl, rfl⟩), (fun w' hw => calls_same hw (minus_f Fu.out Fx.out _)), ?_⟩); go_simp; refine hK _ ?_; clear hK K
    refine cls_call rfl (fun K hK => ⟨_, _, _, (fun w' => by go_simp <;> first | exact rfl | exact ⟨rfl, rfl⟩), (fun w' hw => calls_same hw (inverse_f (fi_sub _ _) _)), ?_⟩); go_simp; refine hK _ ?_; clear hK K
    refine cls_call rfl (fun K hK => ⟨_, _, _, (fun w' => by go_simp <;> first | exact rfl | exact ⟨rfl, rfl⟩), (fun w' hw => calls_same hw (times_f (fi_sub _ _) (fi_pow _ _) _)), ?_⟩); go_simp; refine hK _ ?_; clear hK K
    refine wq_nil ?_
    intro w' hw
    have hB2 := below_then hB1 hw
    clear hx1 hy1 hB1 hw
    go_wp2
    go_ret2
    exact ⟨rfl, hB2⟩

end Go.Proofs.Ytbkfdafdchjakaa
