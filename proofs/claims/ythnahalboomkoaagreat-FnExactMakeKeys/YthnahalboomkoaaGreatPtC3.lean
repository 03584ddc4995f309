/-
  The walks of the program's places on the curve: sums, the place of a point.
  (-DROP-: what the seat lacks is left out.)
-/
import Derived.Test.YthnahalboomkoaaGreatJoined17

namespace Go.Proofs.YthnahalboomkoaaGreat
open Go.RowKit

theorem fi_ok {a : Int} (h : fpOk a = true) : Fi a := by
  have h' : decide (0 ≤ a ∧ a < 12107) = true := h
  have h2 : 0 ≤ a ∧ a < 12107 := by simpa using h'
  exact h2

theorem fi_slope (P Q : Pt) : Fi (pSlope P Q).1 := by
  unfold pSlope
  split
  · exact fi_mul _ _
  · split
    · exact fi_0
    · exact fi_mul _ _

theorem padd_third (x y u v : Int) : pAdd (x, y, false) (u, v, false) = if (pSlope (x, y, false) (u, v, false)).2 = true then pThird x y u (pSlope (x, y, false) (u, v, false)).1 else pZ := by
  rw [padd_slope]
  simp

set_option maxHeartbeats 1600000 in
set_option maxRecDepth 100000 in
theorem plusC_any (v u : Value) (P Q : Pt) (w : World) (hp : PAt w v P) (hq : PAt w u Q) (hP : POk P) (hQ : POk Q) :
    Calls Tryz.prog 69 #[v, u] w fun e w' => ∃ v', e = .returned v' ∧ PAt w' v' (pAdd P Q) ∧ Below w.heap.size w w' := by
  rcases hp with ⟨rfl, rfl⟩ | ⟨b, x, y, rfl, rfl, hx⟩
  · have HQ : Hid (PAt w u (pAdd pZ Q)) := hq
    clear hP hQ hq
    go_enter Tryz.func69, Tryz.ntmps69
    go_wp2
    go_ret
    exact ⟨_, rfl, HQ.out, Below.refl _ _⟩
  · rcases hq with ⟨rfl, rfl⟩ | ⟨c, s, t, rfl, rfl, hy⟩
    · have HP : Hid (PAt w (.pointer (some ⟨b, 0, none⟩)) (pAdd (x, y, false) pZ)) := Or.inr ⟨b, x, y, rfl, rfl, hx⟩
      clear hP hQ hx
      go_enter Tryz.func69, Tryz.ntmps69
      go_wp2
      go_ret
      exact ⟨_, rfl, HP.out, Below.refl _ _⟩
    · have Fx : Hid (Fi x) := (pok_xy hP).1
      have Fy : Hid (Fi y) := (pok_xy hP).2
      have Fs : Hid (Fi s) := (pok_xy hQ).1
      have Fl : Hid (Fi (pSlope (x, y, false) (s, t, false)).1) := fi_slope _ _
      have HL : Hid (Calls Tryz.prog 143 #[.pointer (some ⟨b, 0, none⟩), .pointer (some ⟨c, 0, none⟩)] w fun e w' => e = .returned (.tuple #[.int .i64 (pSlope (x, y, false) (s, t, false)).1, .bool (pSlope (x, y, false) (s, t, false)).2]) ∧ Below w.heap.size w w') := slopeTo_any b c x y s t w hx hy Fx.out Fy.out Fs.out (pok_xy hQ).2
      have HE : Hid (pAdd (x, y, false) (s, t, false) = if (pSlope (x, y, false) (s, t, false)).2 = true then pThird x y s (pSlope (x, y, false) (s, t, false)).1 else pZ) := padd_third x y s t
      clear hP hQ
      generalize pSlope (x, y, false) (s, t, false) = S at Fl HL HE
      obtain ⟨l, ok⟩ := S
      cases ok
      · go_enter Tryz.func69, Tryz.ntmps69
        go_wp2_with fail
        refine HL.out.mono ?_
        rintro e w1 ⟨rfl, hb1⟩
        clear hx hy HL
        go_wp2
        go_ret
        exact ⟨_, rfl, by rw [HE.out]; exact pat_zero _, hb1⟩
      · go_enter Tryz.func69, Tryz.ntmps69
        go_wp2_with fail
        refine HL.out.mono ?_
        rintro e w1 ⟨rfl, hb1⟩
        have hx1 := hx.on hb1 hx.lt
        have hy1 := hy.on hb1 hy.lt
        clear hx hy HL
        go_wp2_with fail
        refine wp_region_class 13 (fun wz => Below w1.heap.size w1 wz) mixes (by kernel_rfl) (Below.refl _ _).drew ?_
        simp only [List.take_succ_cons, List.take_zero, List.drop_succ_cons, List.drop_zero]
        repeat (refine cls_step rfl (fun K hK => ⟨_, (fun w' hw => by have q0 := (hx1.on hw hx1.lt).cell 0; have q1 := (hx1.on hw hx1.lt).cell 1; have q2 := (hy1.on hw hy1.lt).cell 0; have q3 := (hy1.on hw hy1.lt).cell 1; go_simp; exact rfl), ?_⟩); go_simp; refine hK _ ?_; clear hK K)
        refine cls_call rfl (fun K hK => ⟨_, _, _, (fun w' => by go_simp <;> first | exact rfl | exact ⟨rfl, rfl⟩), (fun w' hw => calls_same hw (times_f Fl.out Fl.out _)), ?_⟩); go_simp; refine hK _ ?_; clear hK K
        repeat (refine cls_step rfl (fun K hK => ⟨_, (fun w' hw => by have q0 := (hx1.on hw hx1.lt).cell 0; have q1 := (hx1.on hw hx1.lt).cell 1; have q2 := (hy1.on hw hy1.lt).cell 0; have q3 := (hy1.on hw hy1.lt).cell 1; go_simp; exact rfl), ?_⟩); go_simp; refine hK _ ?_; clear hK K)
        refine cls_call rfl (fun K hK => ⟨_, _, _, (fun w' => by go_simp <;> first | exact rfl | exact ⟨rfl, rfl⟩), (fun w' hw => calls_same hw (minus_f (fi_mul _ _) Fx.out _)), ?_⟩); go_simp; refine hK _ ?_; clear hK K
        repeat (refine cls_step rfl (fun K hK => ⟨_, (fun w' hw => by have q0 := (hx1.on hw hx1.lt).cell 0; have q1 := (hx1.on hw hx1.lt).cell 1; have q2 := (hy1.on hw hy1.lt).cell 0; have q3 := (hy1.on hw hy1.lt).cell 1; go_simp; exact rfl), ?_⟩); go_simp; refine hK _ ?_; clear hK K)
        refine cls_call rfl (fun K hK => ⟨_, _, _, (fun w' => by go_simp <;> first | exact rfl | exact ⟨rfl, rfl⟩), (fun w' hw => calls_same hw (minus_f (fi_sub _ _) Fs.out _)), ?_⟩); go_simp; refine hK _ ?_; clear hK K
        refine wq_nil ?_
        intro w' hw
        have hx2 := hx1.on hw hx1.lt
        have hB2 := below_then hb1 hw
        clear hx1 hy1 hb1 hw
        go_wp2_with fail
        refine wp_region_class 15 (fun wz => Below w'.heap.size w' wz) mixes (by kernel_rfl) (Below.refl _ _).drew ?_
        simp only [List.take_succ_cons, List.take_zero, List.drop_succ_cons, List.drop_zero]
        repeat (refine cls_step rfl (fun K hK => ⟨_, (fun w' hw => by have q0 := (hx2.on hw hx2.lt).cell 0; have q1 := (hx2.on hw hx2.lt).cell 1; go_simp; exact rfl), ?_⟩); go_simp; refine hK _ ?_; clear hK K)
        refine cls_call rfl (fun K hK => ⟨_, _, _, (fun w' => by go_simp <;> first | exact rfl | exact ⟨rfl, rfl⟩), (fun w' hw => calls_same hw (minus_f Fx.out (fi_sub _ _) _)), ?_⟩); go_simp; refine hK _ ?_; clear hK K
        refine cls_call rfl (fun K hK => ⟨_, _, _, (fun w' => by go_simp <;> first | exact rfl | exact ⟨rfl, rfl⟩), (fun w' hw => calls_same hw (times_f Fl.out (fi_sub _ _) _)), ?_⟩); go_simp; refine hK _ ?_; clear hK K
        repeat (refine cls_step rfl (fun K hK => ⟨_, (fun w' hw => by have q0 := (hx2.on hw hx2.lt).cell 0; have q1 := (hx2.on hw hx2.lt).cell 1; go_simp; exact rfl), ?_⟩); go_simp; refine hK _ ?_; clear hK K)
        refine cls_call rfl (fun K hK => ⟨_, _, _, (fun w' => by go_simp <;> first | exact rfl | exact ⟨rfl, rfl⟩), (fun w' hw => calls_same hw (minus_f (fi_mul _ _) Fy.out _)), ?_⟩); go_simp; refine hK _ ?_; clear hK K
        repeat (refine cls_step rfl (fun K hK => ⟨_, (fun w' hw => by have q0 := (hx2.on hw hx2.lt).cell 0; have q1 := (hx2.on hw hx2.lt).cell 1; go_simp; exact rfl), ?_⟩); go_simp; refine hK _ ?_; clear hK K)
        refine wq_nil ?_
        intro w' hw
        have hB3 := below_then hB2 hw
        clear hx2 hB2 hw
        go_wp2
        go_ret
        exact ⟨_, rfl, .inr ⟨_, _, _, rfl, by rw [HE.out]; rfl, Blk.new w' _ _⟩, hB3.alloc hB3.size _⟩

set_option maxHeartbeats 1600000 in
set_option maxRecDepth 100000 in
theorem placeOf_any (P : Pt) (w : World) :
    Calls Tryz.prog 68 #[pv P] w fun e w' => ∃ v', e = .returned (.tuple #[v', .bool (pOkB P)]) ∧ (pOkB P = true → PAt w' v' P) ∧ Below w.heap.size w w' := by
  obtain ⟨x, y, z⟩ := P
  unfold pOkB pv
  cases z
  · simp only [Bool.false_eq_true, if_false]
    have HA : Hid (∀ w, Calls Tryz.prog 141 #[.int .i64 x] w fun e w' => e = .returned (.bool (fpOk x)) ∧ w = w') := iOk_any x
    have HB : Hid (∀ w, Calls Tryz.prog 141 #[.int .i64 y] w fun e w' => e = .returned (.bool (fpOk y)) ∧ w = w') := iOk_any y
    have HM : Hid (fpOk y = true → ∀ w, Calls Tryz.prog 142 #[.int .i64 y, .int .i64 y] w fun e w' => e = .returned (.int .i64 (fpMul y y)) ∧ w = w') := fun h w => times_f (fi_ok h) (fi_ok h) w
    have HR : Hid (fpOk x = true → ∀ w, Calls Tryz.prog 138 #[.int .i64 x] w fun e w' => e = .returned (.int .i64 (rhs x)) ∧ w = w') := fun h w => curveAt_any (fi_ok h) w
    generalize fpOk x = p at HA HR ⊢
    generalize fpOk y = q at HB HM ⊢
    generalize fpMul y y = m at HM ⊢
    generalize rhs x = r at HR ⊢
    cases p
    · rw [show (false && q && m == r) = false from rfl]
      go_enter Tryz.func68, Tryz.ntmps68
      go_wp2_with fail
      obtain ⟨W, hW, hb, hx⟩ := box1 w 35 #[.int .i64 x, .int .i64 y, .bool false]
      rw [hW]
      clear hW
      refine (HA.out _).mono ?_
      rintro e w1 ⟨rfl, rfl⟩
      go_wp2
      go_ret2
      exact ⟨_, rfl, (fun h => by cases h), hb⟩
    · cases q
      · rw [show (true && false && m == r) = false from rfl]
        go_enter Tryz.func68, Tryz.ntmps68
        go_wp2_with fail
        obtain ⟨W, hW, hb, hx⟩ := box1 w 35 #[.int .i64 x, .int .i64 y, .bool false]
        rw [hW]
        clear hW
        have q0 := hx.cell 0
        have q1 := hx.cell 1
        refine (HA.out _).mono ?_
        rintro e w1 ⟨rfl, rfl⟩
        go_wp2_with fail
        refine (HB.out _).mono ?_
        rintro e w1 ⟨rfl, rfl⟩
        go_wp2
        go_ret2
        exact ⟨_, rfl, (fun h => by cases h), hb⟩
      · have HM' : Hid (∀ w, Calls Tryz.prog 142 #[.int .i64 y, .int .i64 y] w fun e w' => e = .returned (.int .i64 m) ∧ w = w') := HM.out rfl
        have HR' : Hid (∀ w, Calls Tryz.prog 138 #[.int .i64 x] w fun e w' => e = .returned (.int .i64 r) ∧ w = w') := HR.out rfl
        clear HM HR
        by_cases h : m = r
        · subst h
          rw [show (true && true && m == m) = true by simp]
          go_enter Tryz.func68, Tryz.ntmps68
          go_wp2_with fail
          obtain ⟨W, hW, hb, hx⟩ := box1 w 35 #[.int .i64 x, .int .i64 y, .bool false]
          rw [hW]
          clear hW
          have q0 := hx.cell 0
          have q1 := hx.cell 1
          refine (HA.out _).mono ?_
          rintro e w1 ⟨rfl, rfl⟩
          go_wp2_with fail
          refine (HB.out _).mono ?_
          rintro e w1 ⟨rfl, rfl⟩
          go_wp2_with fail
          obtain ⟨W2, hW2, hb2, hc⟩ := box1 W 172 #[.int .i64 x, .int .i64 y]
          rw [hW2]
          clear hW2 q0 q1
          have hB2 := below_then hb hb2
          clear hb hb2 hx
          refine wp_region_class 14 (fun wz => Below W2.heap.size W2 wz) mixes (by kernel_rfl) (Below.refl _ _).drew ?_
          simp only [List.take_succ_cons, List.take_zero, List.drop_succ_cons, List.drop_zero]
          repeat (refine cls_step rfl (fun K hK => ⟨_, (fun w' hw => by have q0 := (hc.on hw hc.lt).cell 0; have q1 := (hc.on hw hc.lt).cell 1; go_simp; exact rfl), ?_⟩); go_simp; refine hK _ ?_; clear hK K)
          refine cls_call rfl (fun K hK => ⟨_, _, _, (fun w' => by go_simp <;> first | exact rfl | exact ⟨rfl, rfl⟩), (fun w' hw => calls_same hw (HM'.out _)), ?_⟩); go_simp; refine hK _ ?_; clear hK K
          repeat (refine cls_step rfl (fun K hK => ⟨_, (fun w' hw => by have q0 := (hc.on hw hc.lt).cell 0; have q1 := (hc.on hw hc.lt).cell 1; go_simp; exact rfl), ?_⟩); go_simp; refine hK _ ?_; clear hK K)
          refine cls_call rfl (fun K hK => ⟨_, _, _, (fun w' => by go_simp <;> first | exact rfl | exact ⟨rfl, rfl⟩), (fun w' hw => calls_same hw (HR'.out _)), ?_⟩); go_simp; refine hK _ ?_; clear hK K
          refine wq_nil ?_
          intro w' hw
          have hc2 := hc.on hw hc.lt
          have hB3 := below_then hB2 hw
          clear hc hB2 hw
          go_wp2
          go_ret2
          exact ⟨_, rfl, fun _ => .inr ⟨_, x, y, rfl, rfl, hc2⟩, hB3⟩
        · have h' : (m == r) = false := by simp [h]
          rw [show (true && true && m == r) = false by rw [h']; rfl]
          go_enter Tryz.func68, Tryz.ntmps68
          go_wp2_with fail
          obtain ⟨W, hW, hb, hx⟩ := box1 w 35 #[.int .i64 x, .int .i64 y, .bool false]
          rw [hW]
          clear hW
          have q0 := hx.cell 0
          have q1 := hx.cell 1
          refine (HA.out _).mono ?_
          rintro e w1 ⟨rfl, rfl⟩
          go_wp2_with fail
          refine (HB.out _).mono ?_
          rintro e w1 ⟨rfl, rfl⟩
          go_wp2_with fail
          obtain ⟨W2, hW2, hb2, hc⟩ := box1 W 172 #[.int .i64 x, .int .i64 y]
          rw [hW2]
          clear hW2 q0 q1
          have hB2 := below_then hb hb2
          clear hb hb2 hx
          refine wp_region_class 14 (fun wz => Below W2.heap.size W2 wz) mixes (by kernel_rfl) (Below.refl _ _).drew ?_
          simp only [List.take_succ_cons, List.take_zero, List.drop_succ_cons, List.drop_zero]
          repeat (refine cls_step rfl (fun K hK => ⟨_, (fun w' hw => by have q0 := (hc.on hw hc.lt).cell 0; have q1 := (hc.on hw hc.lt).cell 1; go_simp; exact rfl), ?_⟩); go_simp; refine hK _ ?_; clear hK K)
          refine cls_call rfl (fun K hK => ⟨_, _, _, (fun w' => by go_simp <;> first | exact rfl | exact ⟨rfl, rfl⟩), (fun w' hw => calls_same hw (HM'.out _)), ?_⟩); go_simp; refine hK _ ?_; clear hK K
          repeat (refine cls_step rfl (fun K hK => ⟨_, (fun w' hw => by have q0 := (hc.on hw hc.lt).cell 0; have q1 := (hc.on hw hc.lt).cell 1; go_simp; exact rfl), ?_⟩); go_simp; refine hK _ ?_; clear hK K)
          refine cls_call rfl (fun K hK => ⟨_, _, _, (fun w' => by go_simp <;> first | exact rfl | exact ⟨rfl, rfl⟩), (fun w' hw => calls_same hw (HR'.out _)), ?_⟩); go_simp; refine hK _ ?_; clear hK K
          refine wq_nil ?_
          intro w' hw
          have hB3 := below_then hB2 hw
          clear hc hB2 hw
          go_wp2
          go_ret2
          exact ⟨_, rfl, (fun h => by cases h), hB3⟩
  · simp only [if_true]
    by_cases h0 : x = 0
    · subst h0
      rw [show ((0 : Int) == 0 && y == 0) = (y == 0) from rfl]
      go_enter Tryz.func68, Tryz.ntmps68
      go_wp2_with fail
      obtain ⟨W, hW, hb, hx⟩ := box1 w 35 #[.int .i64 0, .int .i64 y, .bool true]
      rw [hW]
      clear hW
      refine wp_region_class 9 (fun wz => Below W.heap.size W wz) mixes (by kernel_rfl) (Below.refl _ _).drew ?_
      simp only [List.take_succ_cons, List.take_zero, List.drop_succ_cons, List.drop_zero]
      repeat (refine cls_stepG rfl (fun K hK => ⟨_, (fun w' hw => by have q0 := (hx.on hw hx.lt).cell 0; have q1 := (hx.on hw hx.lt).cell 1; go_simp; exact rfl), ?_⟩); go_simp; refine hK _ ?_; clear hK K)
      refine wq_nil ?_
      intro w' hw
      have hB1 := below_then hb hw
      clear hb hx hw
      go_wp2
      go_ret2
      exact ⟨_, rfl, fun h => .inl ⟨rfl, by simp at h; rw [h]; rfl⟩, hB1⟩
    · have h0' : (x == 0) = false := by simp [h0]
      rw [h0', Bool.false_and]
      go_enter Tryz.func68, Tryz.ntmps68
      go_wp2_with fail
      obtain ⟨W, hW, hb, hx⟩ := box1 w 35 #[.int .i64 x, .int .i64 y, .bool true]
      rw [hW]
      clear hW
      refine wp_region_class 9 (fun wz => Below W.heap.size W wz) mixes (by kernel_rfl) (Below.refl _ _).drew ?_
      simp only [List.take_succ_cons, List.take_zero, List.drop_succ_cons, List.drop_zero]
      iterate 4 (refine cls_stepG rfl (fun K hK => ⟨_, (fun w' hw => by have q0 := (hx.on hw hx.lt).cell 0; have q1 := (hx.on hw hx.lt).cell 1; go_simp; exact rfl), ?_⟩); go_simp; refine hK _ ?_; clear hK K)
      iterate 3 (refine cls_skip rfl (fun K hK => ?_); go_simp; refine hK _ ?_; clear hK K)
      repeat (refine cls_stepG rfl (fun K hK => ⟨_, (fun w' hw => by have q0 := (hx.on hw hx.lt).cell 0; have q1 := (hx.on hw hx.lt).cell 1; go_simp; exact rfl), ?_⟩); go_simp; refine hK _ ?_; clear hK K)
      refine wq_nil ?_
      intro w' hw
      have hB1 := below_then hb hw
      clear hb hx hw
      go_wp2
      go_ret2
      exact ⟨_, rfl, (fun h => by cases h), hB1⟩

end Go.Proofs.YthnahalboomkoaaGreat
