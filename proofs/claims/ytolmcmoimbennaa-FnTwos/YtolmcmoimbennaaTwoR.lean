/-
  The walk of the program's TwoOk.
-/
import Derived.Test.YtolmcmoimbennaaTwoI
namespace Go.Proofs.Ytolmcmoimbennaa
open Go.RowKit

theorem fpOk_eq (a : Int) : fpOk a = decide (a = fp a) := by
  unfold fpOk fp
  by_cases h : 0 ≤ a ∧ a < 12107
  · rw [decide_eq_true h, decide_eq_true (by omega)]
  · rw [decide_eq_false h, decide_eq_false (by omega)]

set_option maxHeartbeats 800000 in
set_option maxRecDepth 100000 in
theorem ok2_core (a b c d : Int) (v : Bool) (hv : v = (decide (a = c) && decide (b = d))) (HO : Hid (∀ w, Calls Try.prog 29 #[tv (a, b)] w fun e w' => e = .returned (tv (c, d)) ∧ Below w.heap.size w w')) (w : World) :
    Calls Try.prog 18 #[tv (a, b)] w fun e w' => e = .returned (.bool v) ∧ Below w.heap.size w w' := by
  have HT : Hid (∀ w, Calls Try.prog 31 #[tv (c, d)] w fun e w' => e = .returned (tv (c, d)) ∧ Below w.heap.size w w') := two_any (c, d)
  have HV : Hid (v = (decide (a = c) && decide (b = d))) := hv
  clear hv
  go_enter Try.func18, Try.ntmps18
  go_wp2
  obtain ⟨W, hW, hb, hx⟩ := box1 w 25 #[.int .i64 a, .int .i64 b]
  rw [hW]
  clear hW
  refine wp_region_class 4 (fun w' => Below W.heap.size W w') mixes (by kernel_rfl) (Below.refl _ _).drew ?_
  simp only [List.take_succ_cons, List.take_zero, List.drop_succ_cons, List.drop_zero]
  repeat (refine cls_step rfl (fun K hK => ⟨_, (fun w' hw => by have q0 := (hx.on hw hx.lt).cell 0; have q1 := (hx.on hw hx.lt).cell 1; go_simp; exact rfl), ?_⟩); go_simp; refine hK _ ?_; clear hK K)
  refine cls_call rfl (fun K hK => ⟨_, _, _, (fun w' => by go_simp <;> first | exact rfl | exact ⟨rfl, rfl⟩), (fun w' hw => calls_below hw (HO.out _)), ?_⟩); go_simp; refine hK _ ?_; clear hK K
  refine cls_call rfl (fun K hK => ⟨_, _, _, (fun w' => by go_simp <;> first | exact rfl | exact ⟨rfl, rfl⟩), (fun w' hw => calls_below hw (HT.out _)), ?_⟩); go_simp; refine hK _ ?_; clear hK K
  refine wpQuiet_nil ?_
  intro w' hw

  have hbb := below_then hb hw
  clear hb hw hx HO HT
  by_cases h1 : a = c
  · subst h1
    by_cases h2 : b = d
    · subst h2
      obtain rfl : v = true := by rw [HV.out]; simp
      go_wp2
      go_ret
      exact ⟨rfl, hbb⟩
    · obtain rfl : v = false := by rw [HV.out]; simp [h2]
      go_wp2
      go_ret
      exact ⟨rfl, hbb⟩
  · obtain rfl : v = false := by rw [HV.out]; simp [h1]
    go_wp2
    go_ret
    exact ⟨rfl, hbb⟩

theorem iOk2_any (x : Int × Int) (w : World) :
    Calls Try.prog 18 #[tv x] w fun e w' => e = .returned (.bool (fpOk x.1 && fpOk x.2)) ∧ Below w.heap.size w w' := by
  obtain ⟨a, b⟩ := x
  exact ok2_core a b (fp a) (fp b) _ (by simp only [fpOk_eq]) (twoOf_any (a, b)) w

end Go.Proofs.Ytolmcmoimbennaa
