/-
  The walks of the laws on TwoInv and TwoPow.
-/
import Derived.Test.YtolmcmoimbennabTwoSP
import Derived.Test.YtolmcmoimbennabTwoQ
import Derived.OpenShut
namespace Go.Proofs.Ytolmcmoimbennab
open Go.RowKit Go.ChangeShapes Go.WideShapes

theorem infoL : (Try.prog.info? 23).map (·.size) = some 2 := by kernel_rfl

set_option maxHeartbeats 800000 in
set_option maxRecDepth 100000 in
theorem toTwo_any (x : Int × Int) (w : World) :
    Calls Try.prog 6 #[tv x] w fun e w' => e = .returned (tv x) ∧ Below w.heap.size w w' := by
  go_enter Try.func6, Try.ntmps6
  go_wp2
  obtain ⟨W, hW, hb, hx, hr, hv⟩ := boxes2r w 23 24 24 #[.int .i64 x.1, .int .i64 x.2] #[.int .i64 x.1, .int .i64 x.2] #[.int .i64 x.1, .int .i64 x.2]
  rw [hW]
  refine bodyPost_ret_by (result_blk rfl rfl hr Try.underlying24 infoT) rfl ⟨rfl, hb⟩

set_option maxHeartbeats 800000 in
set_option maxRecDepth 100000 in
theorem eqTwo_same (x : Int × Int) (w : World) :
    Calls Try.prog 8 #[tv x, tv x] w fun e w' => e = .returned (.bool true) ∧ Below w.heap.size w w' := by
  go_enter Try.func8, Try.ntmps8
  go_wp2
  go_ret
  exact ⟨rfl, ((Below.refl _ _).alloc (Nat.le_refl _) _).alloc (by simp) _⟩

set_option maxHeartbeats 800000 in
set_option maxRecDepth 100000 in
theorem lawTwoInv (x : Int × Int) (w : World) :
    Calls Try.prog 3 #[tv x] w fun e w' => e = .returned (.bool true) ∧ Below w.heap.size w w' := by
  have HS : Hid (∀ w, Calls Try.prog 5 #[tv x] w fun e w' => e = .returned (tv (ti x)) ∧ Below w.heap.size w w') := sInv2_any x
  have HI : Hid (∀ w, Calls Try.prog 7 #[tv x] w fun e w' => e = .returned (tv (ti x)) ∧ Below w.heap.size w w') := iInv2_any x
  generalize ti x = v at HS HI
  go_enter Try.func3, Try.ntmps3
  go_wp2_with fail
  obtain ⟨W, hW, hb, hx⟩ := box1 w 23 #[.int .i64 x.1, .int .i64 x.2]
  rw [hW]
  clear hW
  refine (toTwo_any x _).mono ?_
  rintro e w1 ⟨rfl, hb1⟩
  go_wp2_with fail
  refine (HS.out _).mono ?_
  rintro e w2 ⟨rfl, hb2⟩
  have hc2 := below_then hb1 hb2
  have hx2 := hx.on hc2 hx.lt
  have hB2 := below_then hb hc2
  clear hb hx hb1 hb2 hc2
  go_wp2_with (refine load_blk rfl rfl rfl (hx2.alloc _) Try.underlying23 infoL ?_)
  obtain ⟨V, hV, hbV, h3⟩ := box1 w2 24 #[.int .i64 v.1, .int .i64 v.2]
  rw [hV]
  clear hV
  refine (toTwo_any x _).mono ?_
  rintro e w3 ⟨rfl, hb3⟩
  go_wp2_with fail
  refine (HI.out _).mono ?_
  rintro e w4 ⟨rfl, hb4⟩
  have hc4 := below_then hb3 hb4
  have h34 := h3.on hc4 h3.lt
  have hB4 := below_then (below_then hB2 hbV) hc4
  clear hb3 hb4 hc4 h3 hbV hB2 hx2
  have hB5 := below_then hB4 ((Below.refl _ w4).alloc (Nat.le_refl _) (.cells #[.int .i64 v.1, .int .i64 v.2] 24))
  have h45 := Blk.new w4 24 #[.int .i64 v.1, .int .i64 v.2]
  have h35 := h34.alloc (.cells #[.int .i64 v.1, .int .i64 v.2] 24)
  clear h34 hB4
  go_wp2_with (first | (refine load_blk rfl rfl rfl h45 Try.underlying24 infoT ?_) | (refine load_blk rfl rfl rfl h35 Try.underlying24 infoT ?_))
  refine (eqTwo_same v _).mono ?_
  rintro e w5 ⟨rfl, hb5⟩
  have hbb := below_then hB5 hb5
  clear h45 h35 hB5 hb5
  go_wp2
  go_ret
  exact ⟨rfl, hbb⟩

set_option maxHeartbeats 800000 in
set_option maxRecDepth 100000 in
theorem lawTwoPow (x : Int × Int) (n : Int) (hn : (Lit.int .i64 n).wf = true) (w : World) :
    Calls Try.prog 4 #[tv x, .int .i64 n] w fun e w' => e = .returned (.bool true) ∧ Below w.heap.size w w' := by
  have HS : Hid (∀ w, Calls Try.prog 9 #[tv x, .int .i64 n] w fun e w' => e = .returned (tv (tp x n)) ∧ Below w.heap.size w w') := sPow2_any x n (by have := bounds_i64 hn; omega)
  have HI : Hid (∀ w, Calls Try.prog 10 #[tv x, .int .i64 n] w fun e w' => e = .returned (tv (tp x n)) ∧ Below w.heap.size w w') := iPow2_any x n (by have := bounds_i64 hn; omega)
  generalize tp x n = v at HS HI
  go_enter Try.func4, Try.ntmps4
  go_wp2_with fail
  obtain ⟨W, hW, hb, hx⟩ := box1 w 23 #[.int .i64 x.1, .int .i64 x.2]
  rw [hW]
  clear hW
  refine (toTwo_any x _).mono ?_
  rintro e w1 ⟨rfl, hb1⟩
  go_wp2_with fail
  refine (HS.out _).mono ?_
  rintro e w2 ⟨rfl, hb2⟩
  have hc2 := below_then hb1 hb2
  have hx2 := hx.on hc2 hx.lt
  have hB2 := below_then hb hc2
  clear hb hx hb1 hb2 hc2
  go_wp2_with (refine load_blk rfl rfl rfl (hx2.alloc _) Try.underlying23 infoL ?_)
  obtain ⟨V, hV, hbV, h3⟩ := box1 w2 24 #[.int .i64 v.1, .int .i64 v.2]
  rw [hV]
  clear hV
  refine (toTwo_any x _).mono ?_
  rintro e w3 ⟨rfl, hb3⟩
  go_wp2_with fail
  refine (HI.out _).mono ?_
  rintro e w4 ⟨rfl, hb4⟩
  have hc4 := below_then hb3 hb4
  have h34 := h3.on hc4 h3.lt
  have hB4 := below_then (below_then hB2 hbV) hc4
  clear hb3 hb4 hc4 h3 hbV hB2 hx2
  have hB5 := below_then hB4 ((Below.refl _ w4).alloc (Nat.le_refl _) (.cells #[.int .i64 v.1, .int .i64 v.2] 24))
  have h45 := Blk.new w4 24 #[.int .i64 v.1, .int .i64 v.2]
  have h35 := h34.alloc (.cells #[.int .i64 v.1, .int .i64 v.2] 24)
  clear h34 hB4
  go_wp2_with (first | (refine load_blk rfl rfl rfl h45 Try.underlying24 infoT ?_) | (refine load_blk rfl rfl rfl h35 Try.underlying24 infoT ?_))
  refine (eqTwo_same v _).mono ?_
  rintro e w5 ⟨rfl, hb5⟩
  have hbb := below_then hB5 hb5
  clear h45 h35 hB5 hb5
  go_wp2
  go_ret
  exact ⟨rfl, hbb⟩

end Go.Proofs.Ytolmcmoimbennab
