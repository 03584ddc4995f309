/-
  The walk of the program's curvePointOf, once more: what is no point is told by no pointer.
  (-DROP-: what the seat lacks is left out.)
-/
import Derived.Test.YtckhbflolccinaaPtC3
namespace Go.Proofs.Ytckhbflolccinaa
open Go.RowKit

set_option maxHeartbeats 1600000 in
set_option maxRecDepth 100000 in
theorem placeN_any (P : Pt) (w : World) :
    Calls Try.prog 39 #[pv P] w fun e w' => ∃ v', e = .returned (.tuple #[v', .bool (pOkB P)]) ∧ ((pOkB P = true → PAt w' v' P) ∧ (pOkB P = false → v' = .pointer none)) ∧ Below w.heap.size w w' := by
  obtain ⟨x, y, z⟩ := P
  unfold pOkB pv
  cases z
  · simp only [Bool.false_eq_true, if_false]
    have HA : Hid (∀ w, Calls Try.prog 69 #[.int .i64 x] w fun e w' => e = .returned (.bool (fpOk x)) ∧ w = w') := iOk_any x
    have HB : Hid (∀ w, Calls Try.prog 69 #[.int .i64 y] w fun e w' => e = .returned (.bool (fpOk y)) ∧ w = w') := iOk_any y
    have HM : Hid (fpOk y = true → ∀ w, Calls Try.prog 70 #[.int .i64 y, .int .i64 y] w fun e w' => e = .returned (.int .i64 (fpMul y y)) ∧ w = w') := fun h w => times_f (fi_ok h) (fi_ok h) w
    have HR : Hid (fpOk x = true → ∀ w, Calls Try.prog 71 #[.int .i64 x] w fun e w' => e = .returned (.int .i64 (rhs x)) ∧ w = w') := fun h w => curveAt_any (fi_ok h) w
    generalize fpOk x = p at HA HR ⊢
    generalize fpOk y = q at HB HM ⊢
    generalize fpMul y y = m at HM ⊢
    generalize rhs x = r at HR ⊢
    cases p
    · rw [show (false && q && m == r) = false from rfl]
      go_enter Try.func39, Try.ntmps39
      go_wp2_with fail
      obtain ⟨W, hW, hb, hx⟩ := box1 w 25 #[.int .i64 x, .int .i64 y, .bool false]
      rw [hW]
      clear hW
      refine (HA.out _).mono ?_
      rintro e w1 ⟨rfl, rfl⟩
      go_wp2
      go_ret2
      exact ⟨_, rfl, ⟨(fun h => by cases h), fun _ => rfl⟩, hb⟩
    · cases q
      · rw [show (true && false && m == r) = false from rfl]
        go_enter Try.func39, Try.ntmps39
        go_wp2_with fail
        obtain ⟨W, hW, hb, hx⟩ := box1 w 25 #[.int .i64 x, .int .i64 y, .bool false]
        rw [hW]
        clear hW
        have q0 := hx.cell 0
        have q1 := hx.cell 1
        refine (HA.out _).mono ?_
        rintro e w1 ⟨rfl, rfl⟩
        go_wp2_with fail
        refine (HB.out _).mono ?_
        rintro e w1 ⟨rfl, rfl⟩
        go_wp2
        go_ret2
        exact ⟨_, rfl, ⟨(fun h => by cases h), fun _ => rfl⟩, hb⟩
      · have HM' : Hid (∀ w, Calls Try.prog 70 #[.int .i64 y, .int .i64 y] w fun e w' => e = .returned (.int .i64 m) ∧ w = w') := HM.out rfl
        have HR' : Hid (∀ w, Calls Try.prog 71 #[.int .i64 x] w fun e w' => e = .returned (.int .i64 r) ∧ w = w') := HR.out rfl
        clear HM HR
        by_cases h : m = r
        · subst h
          rw [show (true && true && m == m) = true by simp]
          go_enter Try.func39, Try.ntmps39
          go_wp2_with fail
          obtain ⟨W, hW, hb, hx⟩ := box1 w 25 #[.int .i64 x, .int .i64 y, .bool false]
          rw [hW]
          clear hW
          have q0 := hx.cell 0
          have q1 := hx.cell 1
          refine (HA.out _).mono ?_
          rintro e w1 ⟨rfl, rfl⟩
          go_wp2_with fail
          refine (HB.out _).mono ?_
          rintro e w1 ⟨rfl, rfl⟩
          go_wp2_with fail
          obtain ⟨W2, hW2, hb2, hc⟩ := box1 W 87 #[.int .i64 x, .int .i64 y]
          rw [hW2]
          clear hW2 q0 q1
          have hB2 := below_then hb hb2
          clear hb hb2 hx
          refine wp_region_class 14 (fun wz => Below W2.heap.size W2 wz) mixes (by kernel_rfl) (Below.refl _ _).drew ?_
          simp only [List.take_succ_cons, List.take_zero, List.drop_succ_cons, List.drop_zero]
          repeat (refine cls_step rfl (fun K hK => ⟨_, (fun w' hw => by have q0 := (hc.on hw hc.lt).cell 0; have q1 := (hc.on hw hc.lt).cell 1; go_simp; exact rfl), ?_⟩); go_simp; refine hK _ ?_; clear hK K)
          refine cls_call rfl (fun K hK => ⟨_, _, _, (fun w' => by go_simp <;> first | exact rfl | exact ⟨rfl, rfl⟩), (fun w' hw => calls_same hw (HM'.out _)), ?_⟩); go_simp; refine hK _ ?_; clear hK K
          repeat (refine cls_step rfl (fun K hK => ⟨_, (fun w' hw => by have q0 := (hc.on hw hc.lt).cell 0; have q1 := (hc.on hw hc.lt).cell 1; go_simp; exact rfl), ?_⟩); go_simp; refine hK _ ?_; clear hK K)
          refine cls_call rfl (fun K hK => ⟨_, _, _, (fun w' => by go_simp <;> first | exact rfl | exact ⟨rfl, rfl⟩), (fun w' hw => calls_same hw (HR'.out _)), ?_⟩); go_simp; refine hK _ ?_; clear hK K
          refine wq_nil ?_
          intro w' hw
          have hc2 := hc.on hw hc.lt
          have hB3 := below_then hB2 hw
          clear hc hB2 hw
          go_wp2
          go_ret2
          exact ⟨_, rfl, ⟨fun _ => .inr ⟨_, x, y, rfl, rfl, hc2⟩, fun h => by cases h⟩, hB3⟩
        · have h' : (m == r) = false := by simp [h]
          rw [show (true && true && m == r) = false by rw [h']; rfl]
          go_enter Try.func39, Try.ntmps39
          go_wp2_with fail
          obtain ⟨W, hW, hb, hx⟩ := box1 w 25 #[.int .i64 x, .int .i64 y, .bool false]
          rw [hW]
          clear hW
          have q0 := hx.cell 0
          have q1 := hx.cell 1
          refine (HA.out _).mono ?_
          rintro e w1 ⟨rfl, rfl⟩
          go_wp2_with fail
          refine (HB.out _).mono ?_
          rintro e w1 ⟨rfl, rfl⟩
          go_wp2_with fail
          obtain ⟨W2, hW2, hb2, hc⟩ := box1 W 87 #[.int .i64 x, .int .i64 y]
          rw [hW2]
          clear hW2 q0 q1
          have hB2 := below_then hb hb2
          clear hb hb2 hx
          refine wp_region_class 14 (fun wz => Below W2.heap.size W2 wz) mixes (by kernel_rfl) (Below.refl _ _).drew ?_
          simp only [List.take_succ_cons, List.take_zero, List.drop_succ_cons, List.drop_zero]
          repeat (refine cls_step rfl (fun K hK => ⟨_, (fun w' hw => by have q0 := (hc.on hw hc.lt).cell 0; have q1 := (hc.on hw hc.lt).cell 1; go_simp; exact rfl), ?_⟩); go_simp; refine hK _ ?_; clear hK K)
          refine cls_call rfl (fun K hK => ⟨_, _, _, (fun w' => by go_simp <;> first | exact rfl | exact ⟨rfl, rfl⟩), (fun w' hw => calls_same hw (HM'.out _)), ?_⟩); go_simp; refine hK _ ?_; clear hK K
          repeat (refine cls_step rfl (fun K hK => ⟨_, (fun w' hw => by have q0 := (hc.on hw hc.lt).cell 0; have q1 := (hc.on hw hc.lt).cell 1; go_simp; exact rfl), ?_⟩); go_simp; refine hK _ ?_; clear hK K)
          refine cls_call rfl (fun K hK => ⟨_, _, _, (fun w' => by go_simp <;> first | exact rfl | exact ⟨rfl, rfl⟩), (fun w' hw => calls_same hw (HR'.out _)), ?_⟩); go_simp; refine hK _ ?_; clear hK K
          refine wq_nil ?_
          intro w' hw
          have hB3 := below_then hB2 hw
          clear hc hB2 hw
          go_wp2
          go_ret2
          exact ⟨_, rfl, ⟨(fun h => by cases h), fun _ => rfl⟩, hB3⟩
  · simp only [if_true]
    by_cases h0 : x = 0
    · subst h0
      rw [show ((0 : Int) == 0 && y == 0) = (y == 0) from rfl]
      go_enter Try.func39, Try.ntmps39
      go_wp2_with fail
      obtain ⟨W, hW, hb, hx⟩ := box1 w 25 #[.int .i64 0, .int .i64 y, .bool true]
      rw [hW]
      clear hW
      refine wp_region_class 9 (fun wz => Below W.heap.size W wz) mixes (by kernel_rfl) (Below.refl _ _).drew ?_
      simp only [List.take_succ_cons, List.take_zero, List.drop_succ_cons, List.drop_zero]
      repeat (refine cls_stepG rfl (fun K hK => ⟨_, (fun w' hw => by have q0 := (hx.on hw hx.lt).cell 0; have q1 := (hx.on hw hx.lt).cell 1; go_simp; exact rfl), ?_⟩); go_simp; refine hK _ ?_; clear hK K)
      refine wq_nil ?_
      intro w' hw
      have hB1 := below_then hb hw
      clear hb hx hw
      go_wp2
      go_ret2
      exact ⟨_, rfl, ⟨fun h => .inl ⟨rfl, by simp at h; rw [h]; rfl⟩, fun _ => rfl⟩, hB1⟩
    · have h0' : (x == 0) = false := by simp [h0]
      rw [h0', Bool.false_and]
      go_enter Try.func39, Try.ntmps39
      go_wp2_with fail
      obtain ⟨W, hW, hb, hx⟩ := box1 w 25 #[.int .i64 x, .int .i64 y, .bool true]
      rw [hW]
      clear hW
      refine wp_region_class 9 (fun wz => Below W.heap.size W wz) mixes (by kernel_rfl) (Below.refl _ _).drew ?_
      simp only [List.take_succ_cons, List.take_zero, List.drop_succ_cons, List.drop_zero]
      iterate 4 (refine cls_stepG rfl (fun K hK => ⟨_, (fun w' hw => by have q0 := (hx.on hw hx.lt).cell 0; have q1 := (hx.on hw hx.lt).cell 1; go_simp; exact rfl), ?_⟩); go_simp; refine hK _ ?_; clear hK K)
      iterate 3 (refine cls_skip rfl (fun K hK => ?_); go_simp; refine hK _ ?_; clear hK K)
      repeat (refine cls_stepG rfl (fun K hK => ⟨_, (fun w' hw => by have q0 := (hx.on hw hx.lt).cell 0; have q1 := (hx.on hw hx.lt).cell 1; go_simp; exact rfl), ?_⟩); go_simp; refine hK _ ?_; clear hK K)
      refine wq_nil ?_
      intro w' hw
      have hB1 := below_then hb hw
      clear hb hx hw
      go_wp2
      go_ret2
      exact ⟨_, rfl, ⟨(fun h => by cases h), fun _ => rfl⟩, hB1⟩

/-- A point, or Zero where it is none. -/
def nP (P : Pt) : Pt := if pOkB P = true then P else pZ
theorem np_ok (P : Pt) : POk (nP P) := by
  unfold nP
  by_cases h : pOkB P = true
  · rw [if_pos h]; exact pokB.1 h
  · rw [if_neg h]; exact .inl rfl

theorem place_any (P : Pt) (w : World) :
    Calls Try.prog 39 #[pv P] w fun e w' => ∃ v', e = .returned (.tuple #[v', .bool (pOkB P)]) ∧ PAt w' v' (nP P) ∧ Below w.heap.size w w' := by
  refine (placeN_any P w).mono ?_
  rintro e w' ⟨v', rfl, ⟨h1, h2⟩, hb⟩
  refine ⟨v', rfl, ?_, hb⟩
  unfold nP
  cases h : pOkB P
  · rw [h2 h]; exact pat_zero _
  · exact h1 h

end Go.Proofs.Ytckhbflolccinaa
