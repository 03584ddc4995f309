/-
  The walks of the specification's points.
  (-DROP-: what the seat lacks is left out.)
-/
import Derived.Test.YthnahalboomkoaaGreatJoined14
import Derived.Test.YthnahalboomkoaaGreatJoined3
import Derived.Test.YthnahalboomkoaaGreatJoined6
import Derived.Test.YthnahalboomkoaaGreatJoined8

namespace Go.Proofs.YthnahalboomkoaaGreat
open Go.RowKit

/-- A point as a value. -/
abbrev pv (P : Pt) : Value := .agg #[.int .i64 P.1, .int .i64 P.2.1, .bool P.2.2]

theorem infoP : (Tryz.prog.info? 35).map (·.size) = some 3 := by kernel_rfl

theorem ones3 (a b : Int) (c : Bool) : (#[Value.int .i64 a, Value.int .i64 b, Value.bool c]).all (·.oneCell') = true := by simp [Value.oneCell']

/-- A point's cells. -/
def pc (P : Pt) : Array Value := #[.int .i64 P.1, .int .i64 P.2.1, .bool P.2.2]

set_option maxRecDepth 100000 in
theorem sZero_any (w : World) :
    Calls Tryz.prog 106 #[] w fun e w' => e = .returned (pv pZ) ∧ Below w.heap.size w w' := by
  go_enter Tryz.func106, Tryz.ntmps106
  go_wp2
  refine bodyPost_ret_by (result_blk rfl rfl (Blk.newAt (by simp)) Tryz.underlying35 infoP) rfl ⟨rfl, (Below.refl _ _).alloc (Nat.le_refl _) _⟩

set_option maxRecDepth 100000 in
theorem sBase_any (w : World) :
    Calls Tryz.prog 75 #[] w fun e w' => e = .returned (pv pB) ∧ Below w.heap.size w w' := by
  go_enter Tryz.func75, Tryz.ntmps75
  go_wp2
  refine bodyPost_ret_by (result_blk rfl rfl (Blk.newAt (by simp)) Tryz.underlying35 infoP) rfl ⟨rfl, (Below.refl _ _).alloc (Nat.le_refl _) _⟩

set_option maxHeartbeats 400000 in
set_option maxRecDepth 100000 in
theorem sRight_any (x : Int) (w : World) :
    Calls Tryz.prog 164 #[.int .i64 x] w fun e w' => e = .returned (.int .i64 (rhs x)) ∧ w = w' := by
  have HE : Hid (rhs x = fpAdd (fpMul (fpMul x x) x) x) := rfl
  go_enter Tryz.func164, Tryz.ntmps164
  go_wp2_with (first | (go_at_call 166; refine (sMul_any _ _ _).mono ?_; rintro e w1 ⟨rfl, rfl⟩) | (go_at_call 167; refine (sAdd_any _ _ _).mono ?_; rintro e w1 ⟨rfl, rfl⟩))
  go_ret
  exact ⟨by rw [HE.out]; rfl, rfl⟩

set_option maxHeartbeats 800000 in
set_option maxRecDepth 100000 in
theorem sPOk_any (P : Pt) (w : World) :
    Calls Tryz.prog 148 #[pv P] w fun e w' => e = .returned (.bool (pOkB P)) ∧ Below w.heap.size w w' := by
  obtain ⟨x, y, z⟩ := P
  unfold pOkB pv
  cases z
  · simp only [Bool.false_eq_true, if_false]
    have HA : Hid (∀ w, Calls Tryz.prog 162 #[.int .i64 x] w fun e w' => e = .returned (.bool (fpOk x)) ∧ w = w') := sOk_any x
    have HB : Hid (∀ w, Calls Tryz.prog 162 #[.int .i64 y] w fun e w' => e = .returned (.bool (fpOk y)) ∧ w = w') := sOk_any y
    have HM : Hid (∀ w, Calls Tryz.prog 166 #[.int .i64 y, .int .i64 y] w fun e w' => e = .returned (.int .i64 (fpMul y y)) ∧ w = w') := sMul_any y y
    have HR : Hid (∀ w, Calls Tryz.prog 164 #[.int .i64 x] w fun e w' => e = .returned (.int .i64 (rhs x)) ∧ w = w') := sRight_any x
    generalize fpOk x = p at HA ⊢
    generalize fpOk y = q at HB ⊢
    generalize fpMul y y = m at HM ⊢
    generalize rhs x = r at HR ⊢
    cases p
    · go_enter Tryz.func148, Tryz.ntmps148
      go_wp2
      obtain ⟨W, hW, hb, hx⟩ := box1 w 35 #[.int .i64 x, .int .i64 y, .bool false]
      rw [hW]
      clear hW
      refine wp_region_class 19 (fun wz => Below W.heap.size W wz) mixes (by kernel_rfl) (Below.refl _ _).drew ?_
      simp only [List.take_succ_cons, List.take_zero, List.drop_succ_cons, List.drop_zero]
      repeat (refine cls_step rfl (fun K hK => ⟨_, (fun w' hw => by have q0 := (hx.on hw hx.lt).cell 0; have q1 := (hx.on hw hx.lt).cell 1; have q2 := (hx.on hw hx.lt).cell 2; go_simp; exact rfl), ?_⟩); go_simp; refine hK _ ?_; clear hK K)
      refine cls_call rfl (fun K hK => ⟨_, _, _, (fun w' => by go_simp <;> first | exact rfl | exact ⟨rfl, rfl⟩), (fun w' hw => calls_same hw (HA.out _)), ?_⟩); go_simp; refine hK _ ?_; clear hK K
      iterate 1 (refine cls_step rfl (fun K hK => ⟨_, (fun w' hw => by go_simp; exact rfl), ?_⟩); go_simp; refine hK _ ?_; clear hK K)
      iterate 3 (refine cls_skip rfl (fun K hK => ?_); go_simp; refine hK _ ?_; clear hK K)
      iterate 2 (refine cls_step rfl (fun K hK => ⟨_, (fun w' hw => by go_simp; exact rfl), ?_⟩); go_simp; refine hK _ ?_; clear hK K)
      iterate 9 (refine cls_skip rfl (fun K hK => ?_); go_simp; refine hK _ ?_; clear hK K)
      iterate 1 (refine cls_step rfl (fun K hK => ⟨_, (fun w' hw => by go_simp; exact rfl), ?_⟩); go_simp; refine hK _ ?_; clear hK K)
      refine wq_nil ?_
      intro w' hw
      go_wp2
      go_ret
      exact ⟨rfl, below_then hb hw⟩
    · cases q
      · go_enter Tryz.func148, Tryz.ntmps148
        go_wp2
        obtain ⟨W, hW, hb, hx⟩ := box1 w 35 #[.int .i64 x, .int .i64 y, .bool false]
        rw [hW]
        clear hW
        refine wp_region_class 19 (fun wz => Below W.heap.size W wz) mixes (by kernel_rfl) (Below.refl _ _).drew ?_
        simp only [List.take_succ_cons, List.take_zero, List.drop_succ_cons, List.drop_zero]
        repeat (refine cls_step rfl (fun K hK => ⟨_, (fun w' hw => by have q0 := (hx.on hw hx.lt).cell 0; have q1 := (hx.on hw hx.lt).cell 1; have q2 := (hx.on hw hx.lt).cell 2; go_simp; exact rfl), ?_⟩); go_simp; refine hK _ ?_; clear hK K)
        refine cls_call rfl (fun K hK => ⟨_, _, _, (fun w' => by go_simp <;> first | exact rfl | exact ⟨rfl, rfl⟩), (fun w' hw => calls_same hw (HA.out _)), ?_⟩); go_simp; refine hK _ ?_; clear hK K
        repeat (refine cls_step rfl (fun K hK => ⟨_, (fun w' hw => by have q0 := (hx.on hw hx.lt).cell 0; have q1 := (hx.on hw hx.lt).cell 1; have q2 := (hx.on hw hx.lt).cell 2; go_simp; exact rfl), ?_⟩); go_simp; refine hK _ ?_; clear hK K)
        repeat (refine cls_stepG rfl (fun K hK => ⟨_, (fun w' hw => by have q0 := (hx.on hw hx.lt).cell 0; have q1 := (hx.on hw hx.lt).cell 1; have q2 := (hx.on hw hx.lt).cell 2; go_simp; exact rfl), ?_⟩); go_simp; refine hK _ ?_; clear hK K)
        refine cls_callG rfl (fun K hK => ⟨_, _, _, (fun w' => by go_simp <;> first | exact rfl | exact ⟨rfl, rfl⟩), (fun w' hw => calls_same hw (HB.out _)), ?_⟩); go_simp; refine hK _ ?_; clear hK K
        repeat (refine cls_step rfl (fun K hK => ⟨_, (fun w' hw => by have q0 := (hx.on hw hx.lt).cell 0; have q1 := (hx.on hw hx.lt).cell 1; have q2 := (hx.on hw hx.lt).cell 2; go_simp; exact rfl), ?_⟩); go_simp; refine hK _ ?_; clear hK K)
        iterate 9 (refine cls_skip rfl (fun K hK => ?_); go_simp; refine hK _ ?_; clear hK K)
        repeat (refine cls_step rfl (fun K hK => ⟨_, (fun w' hw => by have q0 := (hx.on hw hx.lt).cell 0; have q1 := (hx.on hw hx.lt).cell 1; have q2 := (hx.on hw hx.lt).cell 2; go_simp; exact rfl), ?_⟩); go_simp; refine hK _ ?_; clear hK K)
        refine wq_nil ?_
        intro w' hw
        go_wp2
        go_ret
        exact ⟨rfl, below_then hb hw⟩
      · go_enter Tryz.func148, Tryz.ntmps148
        go_wp2
        obtain ⟨W, hW, hb, hx⟩ := box1 w 35 #[.int .i64 x, .int .i64 y, .bool false]
        rw [hW]
        clear hW
        refine wp_region_class 19 (fun wz => Below W.heap.size W wz) mixes (by kernel_rfl) (Below.refl _ _).drew ?_
        simp only [List.take_succ_cons, List.take_zero, List.drop_succ_cons, List.drop_zero]
        repeat (refine cls_step rfl (fun K hK => ⟨_, (fun w' hw => by have q0 := (hx.on hw hx.lt).cell 0; have q1 := (hx.on hw hx.lt).cell 1; have q2 := (hx.on hw hx.lt).cell 2; go_simp; exact rfl), ?_⟩); go_simp; refine hK _ ?_; clear hK K)
        refine cls_call rfl (fun K hK => ⟨_, _, _, (fun w' => by go_simp <;> first | exact rfl | exact ⟨rfl, rfl⟩), (fun w' hw => calls_same hw (HA.out _)), ?_⟩); go_simp; refine hK _ ?_; clear hK K
        iterate 1 (refine cls_step rfl (fun K hK => ⟨_, (fun w' hw => by go_simp; exact rfl), ?_⟩); go_simp; refine hK _ ?_; clear hK K)
        iterate 2 (refine cls_stepG rfl (fun K hK => ⟨_, (fun w' hw => by have q0 := (hx.on hw hx.lt).cell 0; have q1 := (hx.on hw hx.lt).cell 1; have q2 := (hx.on hw hx.lt).cell 2; go_simp; exact rfl), ?_⟩); go_simp; refine hK _ ?_; clear hK K)
        refine cls_callG rfl (fun K hK => ⟨_, _, _, (fun w' => by go_simp <;> first | exact rfl | exact ⟨rfl, rfl⟩), (fun w' hw => calls_same hw (HB.out _)), ?_⟩); go_simp; refine hK _ ?_; clear hK K
        iterate 2 (refine cls_step rfl (fun K hK => ⟨_, (fun w' hw => by go_simp; exact rfl), ?_⟩); go_simp; refine hK _ ?_; clear hK K)
        iterate 4 (refine cls_stepG rfl (fun K hK => ⟨_, (fun w' hw => by have q0 := (hx.on hw hx.lt).cell 0; have q1 := (hx.on hw hx.lt).cell 1; have q2 := (hx.on hw hx.lt).cell 2; go_simp; exact rfl), ?_⟩); go_simp; refine hK _ ?_; clear hK K)
        refine cls_callG rfl (fun K hK => ⟨_, _, _, (fun w' => by go_simp <;> first | exact rfl | exact ⟨rfl, rfl⟩), (fun w' hw => calls_same hw (HM.out _)), ?_⟩); go_simp; refine hK _ ?_; clear hK K
        iterate 2 (refine cls_stepG rfl (fun K hK => ⟨_, (fun w' hw => by have q0 := (hx.on hw hx.lt).cell 0; have q1 := (hx.on hw hx.lt).cell 1; have q2 := (hx.on hw hx.lt).cell 2; go_simp; exact rfl), ?_⟩); go_simp; refine hK _ ?_; clear hK K)
        refine cls_callG rfl (fun K hK => ⟨_, _, _, (fun w' => by go_simp <;> first | exact rfl | exact ⟨rfl, rfl⟩), (fun w' hw => calls_same hw (HR.out _)), ?_⟩); go_simp; refine hK _ ?_; clear hK K
        iterate 1 (refine cls_stepG rfl (fun K hK => ⟨_, (fun w' hw => by go_simp; exact rfl), ?_⟩); go_simp; refine hK _ ?_; clear hK K)
        iterate 1 (refine cls_step rfl (fun K hK => ⟨_, (fun w' hw => by go_simp; exact rfl), ?_⟩); go_simp; refine hK _ ?_; clear hK K)
        refine wq_nil ?_
        intro w' hw
        go_wp2
        go_ret
        exact ⟨rfl, below_then hb hw⟩
  · simp only [if_true]
    by_cases h0 : x = 0
    · subst h0
      go_enter Tryz.func148, Tryz.ntmps148
      go_wp2
      go_ret
      exact ⟨rfl, (Below.refl _ _).alloc (Nat.le_refl _) _⟩
    · have h0' : (x == 0) = false := by simp [h0]
      rw [h0', Bool.false_and]
      go_enter Tryz.func148, Tryz.ntmps148
      go_wp2
      go_ret
      exact ⟨rfl, (Below.refl _ _).alloc (Nat.le_refl _) _⟩

set_option maxHeartbeats 800000 in
set_option maxRecDepth 100000 in
theorem sNeg_any (P : Pt) (w : World) :
    Calls Tryz.prog 157 #[pv P] w fun e w' => e = .returned (pv (pNeg P)) ∧ Below w.heap.size w w' := by
  obtain ⟨x, y, z⟩ := P
  unfold pNeg
  cases z
  · simp only [Bool.false_eq_true, if_false]
    unfold pv
    go_enter Tryz.func157, Tryz.ntmps157
    go_wp2
    obtain ⟨W, hW, hb, hx, hr⟩ := boxes1r w 35 35 #[.int .i64 x, .int .i64 y, .bool false] #[.int .i64 0, .int .i64 0, .bool false]
    rw [hW]
    clear hW
    refine wp_region_class 6 (fun wz => Below W.heap.size W wz) mixes (by kernel_rfl) (Below.refl _ _).drew ?_
    simp only [List.take_succ_cons, List.take_zero, List.drop_succ_cons, List.drop_zero]
    repeat (refine cls_step rfl (fun K hK => ⟨_, (fun w' hw => by have q0 := (hx.on hw hx.lt).cell 0; have q1 := (hx.on hw hx.lt).cell 1; have q2 := (hx.on hw hx.lt).cell 2; go_simp; exact rfl), ?_⟩); go_simp; refine hK _ ?_; clear hK K)
    refine cls_call rfl (fun K hK => ⟨_, _, _, (fun w' => by go_simp <;> first | exact rfl | exact ⟨rfl, rfl⟩), (fun w' hw => calls_same hw (sSub_any _ _ _)), ?_⟩); go_simp; refine hK _ ?_; clear hK K
    repeat (refine cls_step rfl (fun K hK => ⟨_, (fun w' hw => by go_simp; exact rfl), ?_⟩); go_simp; refine hK _ ?_; clear hK K)
    refine wq_nil ?_
    intro w' hw
    have hr1 := hr.on hw hr.lt
    go_wp2_with (refine store_blk (cs' := #[.int .i64 x, .int .i64 (fpSub 0 y), .bool false]) rfl rfl rfl rfl rfl hr1 infoP rfl (ones3 _ _ _) ?_; intro V h5 hoth hbel; have hbV := hbel _ _ (by omega) (below_then hb hw); clear hoth hbel)
    refine bodyPost_ret_by (result_blk rfl rfl h5 Tryz.underlying35 infoP) rfl ⟨rfl, hbV⟩
  · simp only [if_true]
    unfold pv
    go_enter Tryz.func157, Tryz.ntmps157
    go_wp2_with fail
    obtain ⟨W, hW, hb, hx, hr⟩ := boxes1r w 35 35 #[.int .i64 x, .int .i64 y, .bool true] #[.int .i64 0, .int .i64 0, .bool false]
    rw [hW]
    clear hW
    refine (sZero_any _).mono ?_
    rintro e w1 ⟨rfl, hw⟩
    have hr1 := hr.on hw hr.lt
    go_wp2_with (refine store_blk (cs' := pc pZ) rfl rfl rfl rfl rfl hr1 infoP rfl (ones3 _ _ _) ?_; intro V h5 hoth hbel; have hbV := hbel _ _ (by omega) (below_then hb hw); clear hoth hbel)
    refine bodyPost_ret_by (result_blk rfl rfl h5 Tryz.underlying35 infoP) rfl ⟨rfl, hbV⟩

/-- The slope of two right points, and whether there is one. -/
def pSlope (P Q : Pt) : Int × Bool :=
  if P.1 ≠ Q.1 then (slopeC P.1 P.2.1 Q.1 Q.2.1, true) else if fpAdd P.2.1 Q.2.1 = 0 then (0, false) else (slopeT P.1 P.2.1, true)

set_option maxHeartbeats 800000 in
set_option maxRecDepth 100000 in
theorem sSlope_any (P Q : Pt) (w : World) :
    Calls Tryz.prog 192 #[pv P, pv Q] w fun e w' => e = .returned (.tuple #[.int .i64 (pSlope P Q).1, .bool (pSlope P Q).2]) ∧ Below w.heap.size w w' := by
  obtain ⟨x, y, z⟩ := P
  obtain ⟨u, v, t⟩ := Q
  unfold pSlope pv
  by_cases h1 : x = u
  · subst h1
    simp only [ne_eq, not_true_eq_false, if_false]
    have HS : Hid (∀ w, Calls Tryz.prog 167 #[.int .i64 y, .int .i64 v] w fun e w' => e = .returned (.int .i64 (fpAdd y v)) ∧ w = w') := sAdd_any y v
    generalize fpAdd y v = s at HS ⊢
    by_cases h2 : s = 0
    · subst h2
      rw [if_pos rfl]
      go_enter Tryz.func192, Tryz.ntmps192
      go_wp2_with fail
      refine (HS.out _).mono ?_
      rintro e w1 ⟨rfl, rfl⟩
      go_wp2
      go_ret2
      exact ⟨rfl, ((Below.refl _ _).alloc (Nat.le_refl _) _).alloc (by simp) _⟩
    · rw [if_neg h2]
      have h2' : (s == 0) = false := by simp [h2]
      have HI : Hid (∀ w, Calls Tryz.prog 200 #[.int .i64 (fpMul 2 y)] w fun e w' => e = .returned (.int .i64 (fpPow (fpMul 2 y) 12105)) ∧ w = w') := sInv_any _
      go_enter Tryz.func192, Tryz.ntmps192
      go_wp2_with fail
      obtain ⟨W, hW, hb, hx, hy⟩ := boxes1r w 35 35 #[.int .i64 x, .int .i64 y, .bool z] #[.int .i64 x, .int .i64 v, .bool t]
      rw [hW]
      clear hW
      refine (HS.out _).mono ?_
      rintro e w1 ⟨rfl, rfl⟩
      go_wp2
      refine wp_region_class 12 (fun wz => Below W.heap.size W wz) mixes (by kernel_rfl) (Below.refl _ _).drew ?_
      simp only [List.take_succ_cons, List.take_zero, List.drop_succ_cons, List.drop_zero]
      repeat (refine cls_step rfl (fun K hK => ⟨_, (fun w' hw => by have q0 := (hx.on hw hx.lt).cell 0; have q1 := (hx.on hw hx.lt).cell 1; have q2 := (hx.on hw hx.lt).cell 2; have q3 := (hy.on hw hy.lt).cell 0; have q4 := (hy.on hw hy.lt).cell 1; have q5 := (hy.on hw hy.lt).cell 2; go_simp; exact rfl), ?_⟩); go_simp; refine hK _ ?_; clear hK K)
      refine cls_call rfl (fun K hK => ⟨_, _, _, (fun w' => by go_simp <;> first | exact rfl | exact ⟨rfl, rfl⟩), (fun w' hw => calls_same hw (sMul_any _ _ _)), ?_⟩); go_simp; refine hK _ ?_; clear hK K
      refine cls_call rfl (fun K hK => ⟨_, _, _, (fun w' => by go_simp <;> first | exact rfl | exact ⟨rfl, rfl⟩), (fun w' hw => calls_same hw (sMul_any _ _ _)), ?_⟩); go_simp; refine hK _ ?_; clear hK K
      refine cls_call rfl (fun K hK => ⟨_, _, _, (fun w' => by go_simp <;> first | exact rfl | exact ⟨rfl, rfl⟩), (fun w' hw => calls_same hw (sAdd_any _ _ _)), ?_⟩); go_simp; refine hK _ ?_; clear hK K
      repeat (refine cls_step rfl (fun K hK => ⟨_, (fun w' hw => by have q0 := (hx.on hw hx.lt).cell 0; have q1 := (hx.on hw hx.lt).cell 1; have q2 := (hx.on hw hx.lt).cell 2; have q3 := (hy.on hw hy.lt).cell 0; have q4 := (hy.on hw hy.lt).cell 1; have q5 := (hy.on hw hy.lt).cell 2; go_simp; exact rfl), ?_⟩); go_simp; refine hK _ ?_; clear hK K)
      refine cls_call rfl (fun K hK => ⟨_, _, _, (fun w' => by go_simp <;> first | exact rfl | exact ⟨rfl, rfl⟩), (fun w' hw => calls_same hw (sMul_any _ _ _)), ?_⟩); go_simp; refine hK _ ?_; clear hK K
      refine cls_call rfl (fun K hK => ⟨_, _, _, (fun w' => by go_simp <;> first | exact rfl | exact ⟨rfl, rfl⟩), (fun w' hw => calls_same hw (HI.out _)), ?_⟩); go_simp; refine hK _ ?_; clear hK K
      refine cls_call rfl (fun K hK => ⟨_, _, _, (fun w' => by go_simp <;> first | exact rfl | exact ⟨rfl, rfl⟩), (fun w' hw => calls_same hw (sMul_any _ _ _)), ?_⟩); go_simp; refine hK _ ?_; clear hK K
      refine wq_nil ?_
      intro w' hw
      go_wp2
      go_ret2
      exact ⟨rfl, below_then hb hw⟩
  · have h1' : (x == u) = false := by simp [h1]
    simp only [ne_eq, h1, not_false_eq_true, if_true]
    have HI : Hid (∀ w, Calls Tryz.prog 200 #[.int .i64 (fpSub u x)] w fun e w' => e = .returned (.int .i64 (fpPow (fpSub u x) 12105)) ∧ w = w') := sInv_any _
    go_enter Tryz.func192, Tryz.ntmps192
    go_wp2
    obtain ⟨W, hW, hb, hx, hy⟩ := boxes1r w 35 35 #[.int .i64 x, .int .i64 y, .bool z] #[.int .i64 u, .int .i64 v, .bool t]
    rw [hW]
    clear hW
    refine wp_region_class 12 (fun wz => Below W.heap.size W wz) mixes (by kernel_rfl) (Below.refl _ _).drew ?_
    simp only [List.take_succ_cons, List.take_zero, List.drop_succ_cons, List.drop_zero]
    repeat (refine cls_step rfl (fun K hK => ⟨_, (fun w' hw => by have q0 := (hx.on hw hx.lt).cell 0; have q1 := (hx.on hw hx.lt).cell 1; have q2 := (hx.on hw hx.lt).cell 2; have q3 := (hy.on hw hy.lt).cell 0; have q4 := (hy.on hw hy.lt).cell 1; have q5 := (hy.on hw hy.lt).cell 2; go_simp; exact rfl), ?_⟩); go_simp; refine hK _ ?_; clear hK K)
    refine cls_call rfl (fun K hK => ⟨_, _, _, (fun w' => by go_simp <;> first | exact rfl | exact ⟨rfl, rfl⟩), (fun w' hw => calls_same hw (sSub_any _ _ _)), ?_⟩); go_simp; refine hK _ ?_; clear hK K
    repeat (refine cls_step rfl (fun K hK => ⟨_, (fun w' hw => by have q0 := (hx.on hw hx.lt).cell 0; have q1 := (hx.on hw hx.lt).cell 1; have q2 := (hx.on hw hx.lt).cell 2; have q3 := (hy.on hw hy.lt).cell 0; have q4 := (hy.on hw hy.lt).cell 1; have q5 := (hy.on hw hy.lt).cell 2; go_simp; exact rfl), ?_⟩); go_simp; refine hK _ ?_; clear hK K)
    refine cls_call rfl (fun K hK => ⟨_, _, _, (fun w' => by go_simp <;> first | exact rfl | exact ⟨rfl, rfl⟩), (fun w' hw => calls_same hw (sSub_any _ _ _)), ?_⟩); go_simp; refine hK _ ?_; clear hK K
    refine cls_call rfl (fun K hK => ⟨_, _, _, (fun w' => by go_simp <;> first | exact rfl | exact ⟨rfl, rfl⟩), (fun w' hw => calls_same hw (HI.out _)), ?_⟩); go_simp; refine hK _ ?_; clear hK K
    refine cls_call rfl (fun K hK => ⟨_, _, _, (fun w' => by go_simp <;> first | exact rfl | exact ⟨rfl, rfl⟩), (fun w' hw => calls_same hw (sMul_any _ _ _)), ?_⟩); go_simp; refine hK _ ?_; clear hK K
    refine wq_nil ?_
    intro w' hw
    go_wp2
    go_ret2
    exact ⟨rfl, below_then hb hw⟩

theorem padd_slope (P Q : Pt) : pAdd P Q = if P.2.2 = true then Q else if Q.2.2 = true then P else if (pSlope P Q).2 = true then pThird P.1 P.2.1 Q.1 (pSlope P Q).1 else pZ := by
  unfold pAdd pSlope
  split
  · rfl
  · split
    · rfl
    · by_cases h1 : P.1 = Q.1
      · by_cases h2 : fpAdd P.2.1 Q.2.1 = 0
        · simp [h1, h2]
        · simp [h1, h2]
      · simp [h1]

set_option maxHeartbeats 1600000 in
set_option maxRecDepth 100000 in
theorem sAddR_any (P Q : Pt) (w : World) :
    Calls Tryz.prog 149 #[pv P, pv Q] w fun e w' => e = .returned (pv (pAdd P Q)) ∧ Below w.heap.size w w' := by
  rw [padd_slope]
  have HL : Hid (∀ w, Calls Tryz.prog 192 #[pv P, pv Q] w fun e w' => e = .returned (.tuple #[.int .i64 (pSlope P Q).1, .bool (pSlope P Q).2]) ∧ Below w.heap.size w w') := sSlope_any P Q
  generalize pSlope P Q = s at HL ⊢
  obtain ⟨l, ok⟩ := s
  obtain ⟨x, y, z⟩ := P
  obtain ⟨u, v, t⟩ := Q
  unfold pv at HL ⊢
  simp only at HL ⊢
  cases z
  · cases t
    · simp only [Bool.false_eq_true, if_false]
      cases ok
      · simp only [Bool.false_eq_true, if_false]
        go_enter Tryz.func149, Tryz.ntmps149
        go_wp2_with fail
        obtain ⟨W, hW, hb, hx, hy, hr⟩ := boxes2r w 35 35 35 #[.int .i64 x, .int .i64 y, .bool false] #[.int .i64 u, .int .i64 v, .bool false] #[.int .i64 0, .int .i64 0, .bool false]
        rw [hW]
        clear hW
        refine (HL.out _).mono ?_
        rintro e w1 ⟨rfl, hb1⟩
        have hr1 := hr.on hb1 hr.lt
        have hB1 := below_then hb hb1
        clear hx hy hr hb hb1 HL
        go_wp2_with fail
        refine (sZero_any _).mono ?_
        rintro e w2 ⟨rfl, hb2⟩
        have hr2 := hr1.on hb2 hr1.lt
        have hB2 := below_then hB1 hb2
        clear hr1 hB1 hb2
        go_wp2_with (refine store_blk (cs' := pc pZ) rfl rfl rfl rfl rfl hr2 infoP rfl (ones3 _ _ _) ?_; intro V h5 hoth hbel; have hbV := hbel _ _ (by omega) hB2; clear hoth hbel)
        refine bodyPost_ret_by (result_blk rfl rfl h5 Tryz.underlying35 infoP) rfl ⟨rfl, hbV⟩
      · simp only [if_true]
        go_enter Tryz.func149, Tryz.ntmps149
        go_wp2_with fail
        obtain ⟨W, hW, hb, hx, hy, hr⟩ := boxes2r w 35 35 35 #[.int .i64 x, .int .i64 y, .bool false] #[.int .i64 u, .int .i64 v, .bool false] #[.int .i64 0, .int .i64 0, .bool false]
        rw [hW]
        clear hW
        refine (HL.out _).mono ?_
        rintro e w1 ⟨rfl, hb1⟩
        have hx1 := hx.on hb1 hx.lt
        have hy1 := hy.on hb1 hy.lt
        have hr1 := hr.on hb1 hr.lt
        have hB1 := below_then hb hb1
        clear hx hy hr hb hb1 HL
        go_wp2
        refine wp_region_class 9 (fun wz => Below w1.heap.size w1 wz) mixes (by kernel_rfl) (Below.refl _ _).drew ?_
        simp only [List.take_succ_cons, List.take_zero, List.drop_succ_cons, List.drop_zero]
        repeat (refine cls_step rfl (fun K hK => ⟨_, (fun w' hw => by have q0 := (hx1.on hw hx1.lt).cell 0; have q1 := (hx1.on hw hx1.lt).cell 1; have q2 := (hx1.on hw hx1.lt).cell 2; have q3 := (hy1.on hw hy1.lt).cell 0; have q4 := (hy1.on hw hy1.lt).cell 1; have q5 := (hy1.on hw hy1.lt).cell 2; go_simp; exact rfl), ?_⟩); go_simp; refine hK _ ?_; clear hK K)
        refine cls_call rfl (fun K hK => ⟨_, _, _, (fun w' => by go_simp <;> first | exact rfl | exact ⟨rfl, rfl⟩), (fun w' hw => calls_same hw (sMul_any _ _ _)), ?_⟩); go_simp; refine hK _ ?_; clear hK K
        repeat (refine cls_step rfl (fun K hK => ⟨_, (fun w' hw => by have q0 := (hx1.on hw hx1.lt).cell 0; have q1 := (hx1.on hw hx1.lt).cell 1; have q2 := (hx1.on hw hx1.lt).cell 2; have q3 := (hy1.on hw hy1.lt).cell 0; have q4 := (hy1.on hw hy1.lt).cell 1; have q5 := (hy1.on hw hy1.lt).cell 2; go_simp; exact rfl), ?_⟩); go_simp; refine hK _ ?_; clear hK K)
        refine cls_call rfl (fun K hK => ⟨_, _, _, (fun w' => by go_simp <;> first | exact rfl | exact ⟨rfl, rfl⟩), (fun w' hw => calls_same hw (sSub_any _ _ _)), ?_⟩); go_simp; refine hK _ ?_; clear hK K
        repeat (refine cls_step rfl (fun K hK => ⟨_, (fun w' hw => by have q0 := (hx1.on hw hx1.lt).cell 0; have q1 := (hx1.on hw hx1.lt).cell 1; have q2 := (hx1.on hw hx1.lt).cell 2; have q3 := (hy1.on hw hy1.lt).cell 0; have q4 := (hy1.on hw hy1.lt).cell 1; have q5 := (hy1.on hw hy1.lt).cell 2; go_simp; exact rfl), ?_⟩); go_simp; refine hK _ ?_; clear hK K)
        refine cls_call rfl (fun K hK => ⟨_, _, _, (fun w' => by go_simp <;> first | exact rfl | exact ⟨rfl, rfl⟩), (fun w' hw => calls_same hw (sSub_any _ _ _)), ?_⟩); go_simp; refine hK _ ?_; clear hK K
        refine wq_nil ?_
        intro w' hw
        have hx2 := hx1.on hw hx1.lt
        have hr2 := hr1.on hw hr1.lt
        have hB2 := below_then hB1 hw
        clear hx1 hy1 hr1 hB1 hw
        go_wp2
        refine wp_region_class 11 (fun wz => Below w'.heap.size w' wz) mixes (by kernel_rfl) (Below.refl _ _).drew ?_
        simp only [List.take_succ_cons, List.take_zero, List.drop_succ_cons, List.drop_zero]
        repeat (refine cls_step rfl (fun K hK => ⟨_, (fun w' hw => by have q0 := (hx2.on hw hx2.lt).cell 0; have q1 := (hx2.on hw hx2.lt).cell 1; have q2 := (hx2.on hw hx2.lt).cell 2; go_simp; exact rfl), ?_⟩); go_simp; refine hK _ ?_; clear hK K)
        refine cls_call rfl (fun K hK => ⟨_, _, _, (fun w' => by go_simp <;> first | exact rfl | exact ⟨rfl, rfl⟩), (fun w' hw => calls_same hw (sSub_any _ _ _)), ?_⟩); go_simp; refine hK _ ?_; clear hK K
        refine cls_call rfl (fun K hK => ⟨_, _, _, (fun w' => by go_simp <;> first | exact rfl | exact ⟨rfl, rfl⟩), (fun w' hw => calls_same hw (sMul_any _ _ _)), ?_⟩); go_simp; refine hK _ ?_; clear hK K
        repeat (refine cls_step rfl (fun K hK => ⟨_, (fun w' hw => by have q0 := (hx2.on hw hx2.lt).cell 0; have q1 := (hx2.on hw hx2.lt).cell 1; have q2 := (hx2.on hw hx2.lt).cell 2; go_simp; exact rfl), ?_⟩); go_simp; refine hK _ ?_; clear hK K)
        refine cls_call rfl (fun K hK => ⟨_, _, _, (fun w' => by go_simp <;> first | exact rfl | exact ⟨rfl, rfl⟩), (fun w' hw => calls_same hw (sSub_any _ _ _)), ?_⟩); go_simp; refine hK _ ?_; clear hK K
        repeat (refine cls_step rfl (fun K hK => ⟨_, (fun w' hw => by go_simp; exact rfl), ?_⟩); go_simp; refine hK _ ?_; clear hK K)
        refine wq_nil ?_
        intro w' hw
        have hr3 := hr2.on hw hr2.lt
        have hB3 := below_then hB2 hw
        clear hx2 hr2 hB2 hw
        go_wp2_with (refine store_blk (cs' := pc (pThird x y u l)) rfl rfl rfl rfl rfl hr3 infoP rfl (ones3 _ _ _) ?_; intro V h5 hoth hbel; have hbV := hbel _ _ (by omega) hB3; clear hoth hbel)
        refine bodyPost_ret_by (result_blk rfl rfl h5 Tryz.underlying35 infoP) rfl ⟨rfl, hbV⟩
    · simp only [Bool.false_eq_true, if_false, if_true]
      go_enter Tryz.func149, Tryz.ntmps149
      go_wp2
      refine bodyPost_ret_by (result_blk rfl rfl (Blk.newAt (by simp)) Tryz.underlying35 infoP) rfl ⟨rfl, (((Below.refl _ _).alloc (Nat.le_refl _) _).alloc (by simp) _).alloc (by simp; omega) _⟩
  · simp only [if_true]
    go_enter Tryz.func149, Tryz.ntmps149
    go_wp2
    refine bodyPost_ret_by (result_blk rfl rfl (Blk.newAt (by simp)) Tryz.underlying35 infoP) rfl ⟨rfl, (((Below.refl _ _).alloc (Nat.le_refl _) _).alloc (by simp) _).alloc (by simp; omega) _⟩

end Go.Proofs.YthnahalboomkoaaGreat
