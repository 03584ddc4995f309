/-
  Texts of one's own, joined.
-/
import Derived.Test.YthnahalboomkoaaGreatJoined15
import Derived.Test.YthnahalboomkoaaGreatJoined8

/-
  The walks of the program's places on the curve, told by pointers: none is Zero.
  (-DROP-: what the seat lacks is left out.)
-/
namespace Go.Proofs.YthnahalboomkoaaGreat
open Go.RowKit

/-- A number of the field, as the program keeps it. -/
def Fi (a : Int) : Prop := 0 ≤ a ∧ a < 12107

theorem fi_fp (a : Int) : Fi (fp a) := ⟨fp_nonneg a, fp_lt a⟩
theorem fi_add (a b : Int) : Fi (fpAdd a b) := fi_fp _
theorem fi_sub (a b : Int) : Fi (fpSub a b) := fi_fp _
theorem fi_mul (a b : Int) : Fi (fpMul a b) := fi_fp _
theorem fi_pow (a n : Int) : Fi (fpPow a n) := fpPow_bounds a n
theorem fi_rhs (x : Int) : Fi (rhs x) := fi_add _ _
theorem fi_0 : Fi 0 := ⟨by decide, by decide⟩
theorem fi_1 : Fi 1 := ⟨by decide, by decide⟩
theorem fi_3 : Fi 3 := ⟨by decide, by decide⟩

theorem plus_f {a b : Int} (ha : Fi a) (hb : Fi b) (w : World) :
    Calls Tryz.prog 185 #[.int .i64 a, .int .i64 b] w fun e w' => e = .returned (.int .i64 (fpAdd a b)) ∧ w = w' := by
  rw [fpAdd_eq]; exact plus_any a b ha.1 ha.2 hb.1 hb.2 w

theorem minus_f {a b : Int} (ha : Fi a) (hb : Fi b) (w : World) :
    Calls Tryz.prog 144 #[.int .i64 a, .int .i64 b] w fun e w' => e = .returned (.int .i64 (fpSub a b)) ∧ w = w' := by
  rw [fpSub_eq]; exact minus_any a b ha.1 ha.2 hb.1 hb.2 w

theorem times_f {a b : Int} (ha : Fi a) (hb : Fi b) (w : World) :
    Calls Tryz.prog 142 #[.int .i64 a, .int .i64 b] w fun e w' => e = .returned (.int .i64 (fpMul a b)) ∧ w = w' := by
  rw [fpMul_eq]; exact times_any a b ha.1 ha.2 hb.1 hb.2 w

theorem inverse_f {a : Int} (ha : Fi a) (w : World) :
    Calls Tryz.prog 191 #[.int .i64 a] w fun e w' => e = .returned (.int .i64 (fpPow a 12105)) ∧ w = w' := inverse_any a ha.1 ha.2 w

set_option maxHeartbeats 400000 in
set_option maxRecDepth 100000 in
theorem curveAt_any {x : Int} (hx : Fi x) (w : World) :
    Calls Tryz.prog 138 #[.int .i64 x] w fun e w' => e = .returned (.int .i64 (rhs x)) ∧ w = w' := by
  have HE : Hid (rhs x = fpAdd (fpMul (fpMul x x) x) x) := rfl
  have H1 : Hid (∀ w, Calls Tryz.prog 142 #[.int .i64 x, .int .i64 x] w fun e w' => e = .returned (.int .i64 (fpMul x x)) ∧ w = w') := fun w => times_f hx hx w
  have H2 : Hid (∀ w, Calls Tryz.prog 142 #[.int .i64 (fpMul x x), .int .i64 x] w fun e w' => e = .returned (.int .i64 (fpMul (fpMul x x) x)) ∧ w = w') := fun w => times_f (fi_mul _ _) hx w
  have H3 : Hid (∀ w, Calls Tryz.prog 185 #[.int .i64 (fpMul (fpMul x x) x), .int .i64 x] w fun e w' => e = .returned (.int .i64 (fpAdd (fpMul (fpMul x x) x) x)) ∧ w = w') := fun w => plus_f (fi_mul _ _) hx w
  go_enter Tryz.func138, Tryz.ntmps138
  go_wp2_with fail
  refine (H1.out _).mono ?_
  rintro e w1 ⟨rfl, rfl⟩
  go_wp2_with fail
  refine (H2.out _).mono ?_
  rintro e w1 ⟨rfl, rfl⟩
  go_wp2_with fail
  refine (H3.out _).mono ?_
  rintro e w1 ⟨rfl, rfl⟩
  go_wp2
  go_ret
  exact ⟨by rw [HE.out]; rfl, rfl⟩

/-- A pointer's place on the curve; none: Zero. -/
def PAt (w : World) (v : Value) (P : Pt) : Prop :=
  (v = .pointer none ∧ P = pZ) ∨ ∃ b x y, v = .pointer (some ⟨b, 0, none⟩) ∧ P = (x, y, false) ∧ Blk w b 172 #[.int .i64 x, .int .i64 y]

theorem PAt.on {w w1 : World} {v : Value} {P : Pt} (h : PAt w v P) (hb : Below w.heap.size w w1) : PAt w1 v P := by
  rcases h with h | ⟨b, x, y, h1, h2, h3⟩
  · exact .inl h
  · exact .inr ⟨b, x, y, h1, h2, h3.on hb h3.lt⟩
theorem pat_zero (w : World) : PAt w (.pointer none) pZ := .inl ⟨rfl, rfl⟩

theorem pok_xy {x y : Int} (h : POk (x, y, false)) : Fi x ∧ Fi y := by
  rcases h with h | ⟨_, h1, h2, _⟩
  · cases h
  · exact ⟨h1, h2⟩

set_option maxHeartbeats 800000 in
set_option maxRecDepth 100000 in
theorem point_any (v : Value) (P : Pt) (w : World) (h : PAt w v P) :
    Calls Tryz.prog 70 #[v] w fun e w' => e = .returned (pv P) ∧ Below w.heap.size w w' := by
  rcases h with ⟨rfl, rfl⟩ | ⟨b, x, y, rfl, rfl, hx⟩
  · go_enter Tryz.func70, Tryz.ntmps70
    go_wp2
    refine bodyPost_ret_by (result_blk rfl rfl (Blk.newAt (by simp)) Tryz.underlying35 infoP) rfl ⟨rfl, (Below.refl _ _).alloc (Nat.le_refl _) _⟩
  · go_enter Tryz.func70, Tryz.ntmps70
    go_wp2_with fail
    obtain ⟨W, hW, hb, hr⟩ := box1 w 35 #[.int .i64 0, .int .i64 0, .bool false]
    rw [hW]
    clear hW
    have hx1 := hx.on hb hx.lt
    clear hx
    refine wp_region_class 9 (fun wz => Below W.heap.size W wz) mixes (by kernel_rfl) (Below.refl _ _).drew ?_
    simp only [List.take_succ_cons, List.take_zero, List.drop_succ_cons, List.drop_zero]
    repeat (refine cls_step rfl (fun K hK => ⟨_, (fun w' hw => by have q0 := (hx1.on hw hx1.lt).cell 0; have q1 := (hx1.on hw hx1.lt).cell 1; go_simp; exact rfl), ?_⟩); go_simp; refine hK _ ?_; clear hK K)
    refine wq_nil ?_
    intro w' hw
    have hr1 := hr.on hw hr.lt
    have hB1 := below_then hb hw
    have hl1 : w.heap.size < w'.heap.size := hr1.lt
    clear hr hb hw
    go_wp2_with (refine store_blk (cs' := pc (x, y, false)) rfl rfl rfl rfl rfl hr1 infoP rfl (ones3 _ _ _) ?_; intro V h5 hoth hbel; have hbV := hbel _ _ (by omega) hB1; clear hoth hbel)
    refine bodyPost_ret_by (result_blk rfl rfl h5 Tryz.underlying35 infoP) rfl ⟨rfl, hbV⟩

set_option maxHeartbeats 800000 in
set_option maxRecDepth 100000 in
theorem opposite_any (v : Value) (P : Pt) (w : World) (h : PAt w v P) (hP : POk P) :
    Calls Tryz.prog 181 #[v] w fun e w' => ∃ v', e = .returned v' ∧ PAt w' v' (pNeg P) ∧ Below w.heap.size w w' := by
  rcases h with ⟨rfl, rfl⟩ | ⟨b, x, y, rfl, rfl, hx⟩
  · clear hP
    go_enter Tryz.func181, Tryz.ntmps181
    go_wp2
    go_ret
    exact ⟨_, rfl, pat_zero _, Below.refl _ _⟩
  · have HF : Hid (Fi x ∧ Fi y) := pok_xy hP
    have HN : Hid (pNeg (x, y, false) = (x, fpSub 0 y, false)) := rfl
    clear hP
    go_enter Tryz.func181, Tryz.ntmps181
    go_wp2_with fail
    refine wp_region_class 10 (fun wz => Below w.heap.size w wz) mixes (by kernel_rfl) (Below.refl _ _).drew ?_
    simp only [List.take_succ_cons, List.take_zero, List.drop_succ_cons, List.drop_zero]
    repeat (refine cls_step rfl (fun K hK => ⟨_, (fun w' hw => by have q0 := (hx.on hw hx.lt).cell 0; have q1 := (hx.on hw hx.lt).cell 1; go_simp; exact rfl), ?_⟩); go_simp; refine hK _ ?_; clear hK K)
    refine cls_call rfl (fun K hK => ⟨_, _, _, (fun w' => by go_simp <;> first | exact rfl | exact ⟨rfl, rfl⟩), (fun w' hw => calls_same hw (minus_f fi_0 HF.out.2 _)), ?_⟩); go_simp; refine hK _ ?_; clear hK K
    repeat (refine cls_step rfl (fun K hK => ⟨_, (fun w' hw => by have q0 := (hx.on hw hx.lt).cell 0; have q1 := (hx.on hw hx.lt).cell 1; go_simp; exact rfl), ?_⟩); go_simp; refine hK _ ?_; clear hK K)
    refine wq_nil ?_
    intro w' hw
    go_wp2
    go_ret
    exact ⟨_, rfl, .inr ⟨_, x, fpSub 0 y, rfl, HN.out, Blk.new w' _ _⟩, hw.alloc hw.size _⟩

end Go.Proofs.YthnahalboomkoaaGreat

/-
  The walks of the program's places on the curve: slopes and sums.
  (-DROP-: what the seat lacks is left out.)
-/
namespace Go.Proofs.YthnahalboomkoaaGreat
open Go.RowKit

theorem slopeT_as (x y : Int) : fpMul (fpAdd (fpMul (fpMul x x) 3) 1) (fpPow (fpAdd y y) 12105) = slopeT x y := by
  unfold slopeT
  rw [show fpMul (fpMul x x) 3 = fpMul 3 (fpMul x x) by rw [fpMul_eq, fpMul_eq 3, Int.mul_comm], show fpAdd y y = fpMul 2 y by rw [fpAdd_eq, fpMul_eq, Int.two_mul]]

set_option maxHeartbeats 1600000 in
set_option maxRecDepth 100000 in
theorem slopeTo_any (b c : Nat) (x y u v : Int) (w : World) (hx : Blk w b 172 #[.int .i64 x, .int .i64 y]) (hy : Blk w c 172 #[.int .i64 u, .int .i64 v]) (fx : Fi x) (fy : Fi y) (fu : Fi u) (fv : Fi v) :
    Calls Tryz.prog 143 #[.pointer (some ⟨b, 0, none⟩), .pointer (some ⟨c, 0, none⟩)] w fun e w' => e = .returned (.tuple #[.int .i64 (pSlope (x, y, false) (u, v, false)).1, .bool (pSlope (x, y, false) (u, v, false)).2]) ∧ Below w.heap.size w w' := by
  have Fx : Hid (Fi x) := fx
  have Fy : Hid (Fi y) := fy
  have Fu : Hid (Fi u) := fu
  have Fv : Hid (Fi v) := fv
  clear fx fy fu fv
  unfold pSlope
  by_cases h1 : x = u
  · subst h1
    simp only [ne_eq, not_true_eq_false, if_false]
    have HS : Hid (∀ w, Calls Tryz.prog 185 #[.int .i64 y, .int .i64 v] w fun e w' => e = .returned (.int .i64 (fpAdd y v)) ∧ w = w') := fun w => plus_f Fy.out Fv.out w
    generalize fpAdd y v = s at HS ⊢
    by_cases h2 : s = 0
    · subst h2
      rw [if_pos rfl]
      go_enter Tryz.func143, Tryz.ntmps143
      go_wp2_with fail
      refine wp_region_class 8 (fun wz => Below w.heap.size w wz) mixes (by kernel_rfl) (Below.refl _ _).drew ?_
      simp only [List.take_succ_cons, List.take_zero, List.drop_succ_cons, List.drop_zero]
      repeat (refine cls_step rfl (fun K hK => ⟨_, (fun w' hw => by have q0 := (hx.on hw hx.lt).cell 0; have q1 := (hy.on hw hy.lt).cell 0; go_simp; exact rfl), ?_⟩); go_simp; refine hK _ ?_; clear hK K)
      refine wq_nil ?_
      intro w' hw
      have hx1 := hx.on hw hx.lt
      have hy1 := hy.on hw hy.lt
      have hB1 := hw
      clear hx hy hw
      go_wp2_with fail
      refine wp_region_class 9 (fun wz => Below w'.heap.size w' wz) mixes (by kernel_rfl) (Below.refl _ _).drew ?_
      simp only [List.take_succ_cons, List.take_zero, List.drop_succ_cons, List.drop_zero]
      repeat (refine cls_step rfl (fun K hK => ⟨_, (fun w' hw => by have q0 := (hx1.on hw hx1.lt).cell 0; have q1 := (hx1.on hw hx1.lt).cell 1; have q2 := (hy1.on hw hy1.lt).cell 0; have q3 := (hy1.on hw hy1.lt).cell 1; go_simp; exact rfl), ?_⟩); go_simp; refine hK _ ?_; clear hK K)
      refine cls_call rfl (fun K hK => ⟨_, _, _, (fun w' => by go_simp <;> first | exact rfl | exact ⟨rfl, rfl⟩), (fun w' hw => calls_same hw (HS.out _)), ?_⟩); go_simp; refine hK _ ?_; clear hK K
      refine wq_nil ?_
      intro w' hw
      have hB2 := below_then hB1 hw
      clear hx1 hy1 hB1 hw
      go_wp2
      go_ret2
      exact ⟨rfl, hB2⟩
    · rw [if_neg h2]
      have h2' : (s == 0) = false := by simp [h2]
      have HT : Hid (fpMul (fpAdd (fpMul (fpMul x x) 3) 1) (fpPow (fpAdd y y) 12105) = slopeT x y) := slopeT_as x y
      go_enter Tryz.func143, Tryz.ntmps143
      go_wp2_with fail
      refine wp_region_class 8 (fun wz => Below w.heap.size w wz) mixes (by kernel_rfl) (Below.refl _ _).drew ?_
      simp only [List.take_succ_cons, List.take_zero, List.drop_succ_cons, List.drop_zero]
      repeat (refine cls_step rfl (fun K hK => ⟨_, (fun w' hw => by have q0 := (hx.on hw hx.lt).cell 0; have q1 := (hy.on hw hy.lt).cell 0; go_simp; exact rfl), ?_⟩); go_simp; refine hK _ ?_; clear hK K)
      refine wq_nil ?_
      intro w' hw
      have hx1 := hx.on hw hx.lt
      have hy1 := hy.on hw hy.lt
      have hB1 := hw
      clear hx hy hw
      go_wp2_with fail
      refine wp_region_class 9 (fun wz => Below w'.heap.size w' wz) mixes (by kernel_rfl) (Below.refl _ _).drew ?_
      simp only [List.take_succ_cons, List.take_zero, List.drop_succ_cons, List.drop_zero]
      repeat (refine cls_step rfl (fun K hK => ⟨_, (fun w' hw => by have q0 := (hx1.on hw hx1.lt).cell 0; have q1 := (hx1.on hw hx1.lt).cell 1; have q2 := (hy1.on hw hy1.lt).cell 0; have q3 := (hy1.on hw hy1.lt).cell 1; go_simp; exact rfl), ?_⟩); go_simp; refine hK _ ?_; clear hK K)
      refine cls_call rfl (fun K hK => ⟨_, _, _, (fun w' => by go_simp <;> first | exact rfl | exact ⟨rfl, rfl⟩), (fun w' hw => calls_same hw (HS.out _)), ?_⟩); go_simp; refine hK _ ?_; clear hK K
      refine wq_nil ?_
      intro w' hw
      have hx2 := hx1.on hw hx1.lt
      have hB2 := below_then hB1 hw
      clear hx1 hy1 hB1 hw
      go_wp2_with fail
      refine wp_region_class 11 (fun wz => Below w'.heap.size w' wz) mixes (by kernel_rfl) (Below.refl _ _).drew ?_
      simp only [List.take_succ_cons, List.take_zero, List.drop_succ_cons, List.drop_zero]
      repeat (refine cls_step rfl (fun K hK => ⟨_, (fun w' hw => by have q0 := (hx2.on hw hx2.lt).cell 0; have q1 := (hx2.on hw hx2.lt).cell 1; go_simp; exact rfl), ?_⟩); go_simp; refine hK _ ?_; clear hK K)
      refine cls_call rfl (fun K hK => ⟨_, _, _, (fun w' => by go_simp <;> first | exact rfl | exact ⟨rfl, rfl⟩), (fun w' hw => calls_same hw (times_f Fx.out Fx.out _)), ?_⟩); go_simp; refine hK _ ?_; clear hK K
      refine cls_call rfl (fun K hK => ⟨_, _, _, (fun w' => by go_simp <;> first | exact rfl | exact ⟨rfl, rfl⟩), (fun w' hw => calls_same hw (times_f (fi_mul _ _) fi_3 _)), ?_⟩); go_simp; refine hK _ ?_; clear hK K
      refine cls_call rfl (fun K hK => ⟨_, _, _, (fun w' => by go_simp <;> first | exact rfl | exact ⟨rfl, rfl⟩), (fun w' hw => calls_same hw (plus_f (fi_mul _ _) fi_1 _)), ?_⟩); go_simp; refine hK _ ?_; clear hK K
      refine wq_nil ?_
      intro w' hw
      have hx3 := hx2.on hw hx2.lt
      have hB3 := below_then hB2 hw
      clear hx2 hB2 hw
      go_wp2_with fail
      refine wp_region_class 12 (fun wz => Below w'.heap.size w' wz) mixes (by kernel_rfl) (Below.refl _ _).drew ?_
      simp only [List.take_succ_cons, List.take_zero, List.drop_succ_cons, List.drop_zero]
      repeat (refine cls_step rfl (fun K hK => ⟨_, (fun w' hw => by have q0 := (hx3.on hw hx3.lt).cell 0; have q1 := (hx3.on hw hx3.lt).cell 1; go_simp; exact rfl), ?_⟩); go_simp; refine hK _ ?_; clear hK K)
      refine cls_call rfl (fun K hK => ⟨_, _, _, (fun w' => by go_simp <;> first | exact rfl | exact ⟨rfl, rfl⟩), (fun w' hw => calls_same hw (plus_f Fy.out Fy.out _)), ?_⟩); go_simp; refine hK _ ?_; clear hK K
      refine cls_call rfl (fun K hK => ⟨_, _, _, (fun w' => by go_simp <;> first | exact rfl | exact ⟨rfl, rfl⟩), (fun w' hw => calls_same hw (inverse_f (fi_add _ _) _)), ?_⟩); go_simp; refine hK _ ?_; clear hK K
      refine cls_call rfl (fun K hK => ⟨_, _, _, (fun w' => by go_simp <;> first | exact rfl | exact ⟨rfl, rfl⟩), (fun w' hw => calls_same hw (times_f (fi_add _ _) (fi_pow _ _) _)), ?_⟩); go_simp; refine hK _ ?_; clear hK K
      refine wq_nil ?_
      intro w' hw
      have hB4 := below_then hB3 hw
      clear hx3 hB3 hw
      go_wp2
      go_ret2
      exact ⟨by rw [← HT.out]; rfl, hB4⟩
  · have h1' : (x == u) = false := by simp [h1]
    simp only [ne_eq, h1, not_false_eq_true, if_true]
    go_enter Tryz.func143, Tryz.ntmps143
    go_wp2_with fail
    refine wp_region_class 8 (fun wz => Below w.heap.size w wz) mixes (by kernel_rfl) (Below.refl _ _).drew ?_
    simp only [List.take_succ_cons, List.take_zero, List.drop_succ_cons, List.drop_zero]
    repeat (refine cls_step rfl (fun K hK => ⟨_, (fun w' hw => by have q0 := (hx.on hw hx.lt).cell 0; have q1 := (hy.on hw hy.lt).cell 0; go_simp; exact rfl), ?_⟩); go_simp; refine hK _ ?_; clear hK K)
    refine wq_nil ?_
    intro w' hw
    have hx1 := hx.on hw hx.lt
    have hy1 := hy.on hw hy.lt
    have hB1 := hw
    clear hx hy hw
    go_wp2_with fail
    refine wp_region_class 20 (fun wz => Below w'.heap.size w' wz) mixes (by kernel_rfl) (Below.refl _ _).drew ?_
    simp only [List.take_succ_cons, List.take_zero, List.drop_succ_cons, List.drop_zero]
    repeat (refine cls_step rfl (fun K hK => ⟨_, (fun w' hw => by have q0 := (hx1.on hw hx1.lt).cell 0; have q1 := (hx1.on hw hx1.lt).cell 1; have q2 := (hy1.on hw hy1.lt).cell 0; have q3 := (hy1.on hw hy1.lt).cell 1; go_simp; exact rfl), ?_⟩); go_simp; refine hK _ ?_; clear hK K)
    refine cls_call rfl (fun K hK => ⟨_, _, _, (fun w' => by go_simp <;> first | exact rfl | exact ⟨rfl, rfl⟩), (fun w' hw => calls_same hw (minus_f Fv.out Fy.out _)), ?_⟩); go_simp; refine hK _ ?_; clear hK K
    repeat (refine cls_step rfl (fun K hK => ⟨_, (fun w' hw => by have q0 := (hx1.on hw hx1.lt).cell 0; have q1 := (hx1.on hw hx1.lt).cell 1; have q2 := (hy1.on hw hy1.lt).cell 0; have q3 := (hy1.on hw hy1.lt).cell 1; go_simp; exact rfl), ?_⟩); go_simp; refine hK _ ?_; clear hK K)
    refine cls_call rfl (fun K hK => ⟨_, _, _, (fun w' => by go_simp <;> first | exact rfl | exact ⟨rfl, rfl⟩), (fun w' hw => calls_same hw (minus_f Fu.out Fx.out _)), ?_⟩); go_simp; refine hK _ ?_; clear hK K
    refine cls_call rfl (fun K hK => ⟨_, _, _, (fun w' => by go_simp <;> first | exact rfl | exact ⟨rfl, rfl⟩), (fun w' hw => calls_same hw (inverse_f (fi_sub _ _) _)), ?_⟩); go_simp; refine hK _ ?_; clear hK K
    refine cls_call rfl (fun K hK => ⟨_, _, _, (fun w' => by go_simp <;> first | exact rfl | exact ⟨rfl, rfl⟩), (fun w' hw => calls_same hw (times_f (fi_sub _ _) (fi_pow _ _) _)), ?_⟩); go_simp; refine hK _ ?_; clear hK K
    refine wq_nil ?_
    intro w' hw
    have hB2 := below_then hB1 hw
    clear hx1 hy1 hB1 hw
    go_wp2
    go_ret2
    exact ⟨rfl, hB2⟩

end Go.Proofs.YthnahalboomkoaaGreat
