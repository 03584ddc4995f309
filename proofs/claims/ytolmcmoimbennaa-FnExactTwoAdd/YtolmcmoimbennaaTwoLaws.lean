/-
  The walks of the laws on the functions of numbers two by two.
  (-DROP-: what the seat lacks is left out.)
-/
import Derived.Test.YtolmcmoimbennaaTwoSP
import Derived.Test.YtolmcmoimbennaaTwoQ
import Derived.Test.YtolmcmoimbennaaTwoR
import Derived.OpenShut
namespace Go.Proofs.Ytolmcmoimbennaa
open Go.RowKit Go.ChangeShapes Go.WideShapes

theorem infoL : (Try.prog.info? 37).map (·.size) = some 2 := by kernel_rfl

set_option maxHeartbeats 800000 in
set_option maxRecDepth 100000 in
theorem toTwo_any (x : Int × Int) (w : World) :
    Calls Try.prog 25 #[tv x] w fun e w' => e = .returned (tv x) ∧ Below w.heap.size w w' := by
  go_enter Try.func25, Try.ntmps25
  go_wp2
  obtain ⟨W, hW, hb, hx, hr, hv⟩ := boxes2r w 37 25 25 #[.int .i64 x.1, .int .i64 x.2] #[.int .i64 x.1, .int .i64 x.2] #[.int .i64 x.1, .int .i64 x.2]
  rw [hW]
  refine bodyPost_ret_by (result_blk rfl rfl hr Try.underlying25 infoT) rfl ⟨rfl, hb⟩

set_option maxHeartbeats 800000 in
set_option maxRecDepth 100000 in
theorem eqTwo_same (x : Int × Int) (w : World) :
    Calls Try.prog 26 #[tv x, tv x] w fun e w' => e = .returned (.bool true) ∧ Below w.heap.size w w' := by
  go_enter Try.func26, Try.ntmps26
  go_wp2
  go_ret
  exact ⟨rfl, ((Below.refl _ _).alloc (Nat.le_refl _) _).alloc (by simp) _⟩

set_option maxHeartbeats 800000 in
set_option maxRecDepth 100000 in
theorem lawTwoOk (x : Int × Int) (w : World) :
    Calls Try.prog 5 #[tv x] w fun e w' => e = .returned (.bool true) ∧ Below w.heap.size w w' := by
  have HS : Hid (∀ w, Calls Try.prog 21 #[tv x] w fun e w' => e = .returned (.bool (fpOk x.1 && fpOk x.2)) ∧ Below w.heap.size w w') := sOk2_any x
  have HI : Hid (∀ w, Calls Try.prog 18 #[tv x] w fun e w' => e = .returned (.bool (fpOk x.1 && fpOk x.2)) ∧ Below w.heap.size w w') := iOk2_any x
  generalize (fpOk x.1 && fpOk x.2) = v at HS HI
  go_enter Try.func5, Try.ntmps5
  go_wp2_with fail
  obtain ⟨W, hW, hb, hx⟩ := box1 w 37 #[.int .i64 x.1, .int .i64 x.2]
  rw [hW]
  clear hW
  refine (toTwo_any x _).mono ?_
  rintro e w1 ⟨rfl, hb1⟩
  go_wp2_with fail
  refine (HS.out _).mono ?_
  rintro e w2 ⟨rfl, hb2⟩
  have hc2 := below_then hb1 hb2
  have hx2 := hx.on hc2 hx.lt
  go_wp2_with (refine load_blk rfl rfl rfl hx2 Try.underlying37 infoL ?_)
  refine (toTwo_any x _).mono ?_
  rintro e w3 ⟨rfl, hb3⟩
  go_wp2_with fail
  refine (HI.out _).mono ?_
  rintro e w4 ⟨rfl, hb4⟩
  have hbb := below_then (below_then (below_then hb hc2) hb3) hb4
  clear hb hx hb1 hb2 hc2 hx2 hb3 hb4
  cases v
  · go_wp2
    go_ret
    exact ⟨rfl, hbb⟩
  · go_wp2
    go_ret
    exact ⟨rfl, hbb⟩

set_option maxHeartbeats 800000 in
set_option maxRecDepth 100000 in
theorem lawTwoAdd (x y : Int × Int) (w : World) :
    Calls Try.prog 6 #[tv x, tv y] w fun e w' => e = .returned (.bool true) ∧ Below w.heap.size w w' := by
  have HS : Hid (∀ w, Calls Try.prog 24 #[tv x, tv y] w fun e w' => e = .returned (tv (ta x y)) ∧ Below w.heap.size w w') := sAdd2_any x y
  have HI : Hid (∀ w, Calls Try.prog 17 #[tv x, tv y] w fun e w' => e = .returned (tv (ta x y)) ∧ Below w.heap.size w w') := iAdd2_any x y
  generalize ta x y = v at HS HI
  go_enter Try.func6, Try.ntmps6
  go_wp2
  obtain ⟨W, hW, hb, hx, hy⟩ := boxes1r w 37 37 #[.int .i64 x.1, .int .i64 x.2] #[.int .i64 y.1, .int .i64 y.2]
  rw [hW]
  clear hW
  refine wp_region_made 5 mixes (by kernel_rfl) rfl rfl (fun a w => by go_simp <;> rfl) ?_
  simp only [List.take_succ_cons, List.take_zero, List.drop_succ_cons, List.drop_zero]
  repeat (refine bel_step rfl (fun K hK => ⟨_, (fun w' hw => by have q0 := (hx.on hw hx.lt).cell 0; have q1 := (hx.on hw hx.lt).cell 1; have q2 := (hy.on hw hy.lt).cell 0; have q3 := (hy.on hw hy.lt).cell 1; go_simp; exact rfl), ?_⟩); go_simp; refine hK _ ?_; clear hK K)
  refine bel_call rfl (fun K hK => ⟨_, _, _, (fun w' => by go_simp <;> first | exact rfl | exact ⟨rfl, rfl⟩), (fun w' hw => toTwo_any x _), ?_⟩); go_simp; refine hK _ ?_; clear hK K
  repeat (refine bel_step rfl (fun K hK => ⟨_, (fun w' hw => by have q0 := (hx.on hw hx.lt).cell 0; have q1 := (hx.on hw hx.lt).cell 1; have q2 := (hy.on hw hy.lt).cell 0; have q3 := (hy.on hw hy.lt).cell 1; go_simp; exact rfl), ?_⟩); go_simp; refine hK _ ?_; clear hK K)
  refine bel_call rfl (fun K hK => ⟨_, _, _, (fun w' => by go_simp <;> first | exact rfl | exact ⟨rfl, rfl⟩), (fun w' hw => toTwo_any y _), ?_⟩); go_simp; refine hK _ ?_; clear hK K
  refine bel_call rfl (fun K hK => ⟨_, _, _, (fun w' => by go_simp <;> first | exact rfl | exact ⟨rfl, rfl⟩), (fun w' hw => HS.out _), ?_⟩); go_simp; refine hK _ ?_; clear hK K
  refine bel_nil ?_
  intro gn w' hw hgn hnew
  refine frame_out fun K hK => ?_
  go_simp
  refine hK _ ?_
  clear hK K

  go_wp2_with (refine store_blk (cs' := #[.int .i64 v.1, .int .i64 v.2]) rfl rfl rfl rfl rfl hnew infoT rfl (ones2 _ _) ?_; intro V h5 hoth hbel; have hxV := hoth _ _ _ (by have := hx.lt; omega) (hx.on hw hx.lt); have hyV := hoth _ _ _ (by have := hy.lt; omega) (hy.on hw hy.lt); have hbV := hbel _ _ (by have := hx.lt; omega) (below_then hb hw); clear hoth hbel hnew hgn hx hy hb hw)
  refine wp_region_made 5 mixes (by kernel_rfl) rfl rfl (fun a w => by go_simp <;> rfl) ?_
  simp only [List.take_succ_cons, List.take_zero, List.drop_succ_cons, List.drop_zero]
  repeat (refine bel_step rfl (fun K hK => ⟨_, (fun w' hw => by have q0 := (hxV.on hw hxV.lt).cell 0; have q1 := (hxV.on hw hxV.lt).cell 1; have q2 := (hyV.on hw hyV.lt).cell 0; have q3 := (hyV.on hw hyV.lt).cell 1; go_simp; exact rfl), ?_⟩); go_simp; refine hK _ ?_; clear hK K)
  refine bel_call rfl (fun K hK => ⟨_, _, _, (fun w' => by go_simp <;> first | exact rfl | exact ⟨rfl, rfl⟩), (fun w' hw => toTwo_any x _), ?_⟩); go_simp; refine hK _ ?_; clear hK K
  repeat (refine bel_step rfl (fun K hK => ⟨_, (fun w' hw => by have q0 := (hxV.on hw hxV.lt).cell 0; have q1 := (hxV.on hw hxV.lt).cell 1; have q2 := (hyV.on hw hyV.lt).cell 0; have q3 := (hyV.on hw hyV.lt).cell 1; go_simp; exact rfl), ?_⟩); go_simp; refine hK _ ?_; clear hK K)
  refine bel_call rfl (fun K hK => ⟨_, _, _, (fun w' => by go_simp <;> first | exact rfl | exact ⟨rfl, rfl⟩), (fun w' hw => toTwo_any y _), ?_⟩); go_simp; refine hK _ ?_; clear hK K
  refine bel_call rfl (fun K hK => ⟨_, _, _, (fun w' => by go_simp <;> first | exact rfl | exact ⟨rfl, rfl⟩), (fun w' hw => HI.out _), ?_⟩); go_simp; refine hK _ ?_; clear hK K
  refine bel_nil ?_
  intro gn w' hw hgn hnew
  refine frame_out fun K hK => ?_
  go_simp
  refine hK _ ?_
  clear hK K

  go_wp2_with (first | (refine store_blk (cs' := #[.int .i64 v.1, .int .i64 v.2]) rfl rfl rfl rfl rfl hnew infoT rfl (ones2 _ _) ?_; intro U h6 hoth hbel; have h5U := hoth _ _ _ (by have := h5.lt; omega) (h5.on hw h5.lt); have hbU := hbel _ _ (by have := hbV.size; omega) (below_then hbV hw); clear hoth hbel hnew hgn hxV hyV hbV hw h5) | (refine load_blk rfl rfl rfl h6 Try.underlying25 infoT ?_) | (refine load_blk rfl rfl rfl h5U Try.underlying25 infoT ?_))
  refine (eqTwo_same v _).mono ?_
  rintro e w4 ⟨rfl, hb4⟩
  have hbb := below_then hbU hb4
  clear h6 h5U hbU hb4
  go_wp2
  go_ret
  exact ⟨rfl, hbb⟩

set_option maxHeartbeats 800000 in
set_option maxRecDepth 100000 in
theorem lawTwoMul (x y : Int × Int) (w : World) :
    Calls Try.prog 7 #[tv x, tv y] w fun e w' => e = .returned (.bool true) ∧ Below w.heap.size w w' := by
  have HS : Hid (∀ w, Calls Try.prog 22 #[tv x, tv y] w fun e w' => e = .returned (tv (tm x y)) ∧ Below w.heap.size w w') := sMul2_any x y
  have HI : Hid (∀ w, Calls Try.prog 10 #[tv x, tv y] w fun e w' => e = .returned (tv (tm x y)) ∧ Below w.heap.size w w') := iMul2_any x y
  generalize tm x y = v at HS HI
  go_enter Try.func7, Try.ntmps7
  go_wp2
  obtain ⟨W, hW, hb, hx, hy⟩ := boxes1r w 37 37 #[.int .i64 x.1, .int .i64 x.2] #[.int .i64 y.1, .int .i64 y.2]
  rw [hW]
  clear hW
  refine wp_region_made 5 mixes (by kernel_rfl) rfl rfl (fun a w => by go_simp <;> rfl) ?_
  simp only [List.take_succ_cons, List.take_zero, List.drop_succ_cons, List.drop_zero]
  repeat (refine bel_step rfl (fun K hK => ⟨_, (fun w' hw => by have q0 := (hx.on hw hx.lt).cell 0; have q1 := (hx.on hw hx.lt).cell 1; have q2 := (hy.on hw hy.lt).cell 0; have q3 := (hy.on hw hy.lt).cell 1; go_simp; exact rfl), ?_⟩); go_simp; refine hK _ ?_; clear hK K)
  refine bel_call rfl (fun K hK => ⟨_, _, _, (fun w' => by go_simp <;> first | exact rfl | exact ⟨rfl, rfl⟩), (fun w' hw => toTwo_any x _), ?_⟩); go_simp; refine hK _ ?_; clear hK K
  repeat (refine bel_step rfl (fun K hK => ⟨_, (fun w' hw => by have q0 := (hx.on hw hx.lt).cell 0; have q1 := (hx.on hw hx.lt).cell 1; have q2 := (hy.on hw hy.lt).cell 0; have q3 := (hy.on hw hy.lt).cell 1; go_simp; exact rfl), ?_⟩); go_simp; refine hK _ ?_; clear hK K)
  refine bel_call rfl (fun K hK => ⟨_, _, _, (fun w' => by go_simp <;> first | exact rfl | exact ⟨rfl, rfl⟩), (fun w' hw => toTwo_any y _), ?_⟩); go_simp; refine hK _ ?_; clear hK K
  refine bel_call rfl (fun K hK => ⟨_, _, _, (fun w' => by go_simp <;> first | exact rfl | exact ⟨rfl, rfl⟩), (fun w' hw => HS.out _), ?_⟩); go_simp; refine hK _ ?_; clear hK K
  refine bel_nil ?_
  intro gn w' hw hgn hnew
  refine frame_out fun K hK => ?_
  go_simp
  refine hK _ ?_
  clear hK K

  go_wp2_with (refine store_blk (cs' := #[.int .i64 v.1, .int .i64 v.2]) rfl rfl rfl rfl rfl hnew infoT rfl (ones2 _ _) ?_; intro V h5 hoth hbel; have hxV := hoth _ _ _ (by have := hx.lt; omega) (hx.on hw hx.lt); have hyV := hoth _ _ _ (by have := hy.lt; omega) (hy.on hw hy.lt); have hbV := hbel _ _ (by have := hx.lt; omega) (below_then hb hw); clear hoth hbel hnew hgn hx hy hb hw)
  refine wp_region_made 5 mixes (by kernel_rfl) rfl rfl (fun a w => by go_simp <;> rfl) ?_
  simp only [List.take_succ_cons, List.take_zero, List.drop_succ_cons, List.drop_zero]
  repeat (refine bel_step rfl (fun K hK => ⟨_, (fun w' hw => by have q0 := (hxV.on hw hxV.lt).cell 0; have q1 := (hxV.on hw hxV.lt).cell 1; have q2 := (hyV.on hw hyV.lt).cell 0; have q3 := (hyV.on hw hyV.lt).cell 1; go_simp; exact rfl), ?_⟩); go_simp; refine hK _ ?_; clear hK K)
  refine bel_call rfl (fun K hK => ⟨_, _, _, (fun w' => by go_simp <;> first | exact rfl | exact ⟨rfl, rfl⟩), (fun w' hw => toTwo_any x _), ?_⟩); go_simp; refine hK _ ?_; clear hK K
  repeat (refine bel_step rfl (fun K hK => ⟨_, (fun w' hw => by have q0 := (hxV.on hw hxV.lt).cell 0; have q1 := (hxV.on hw hxV.lt).cell 1; have q2 := (hyV.on hw hyV.lt).cell 0; have q3 := (hyV.on hw hyV.lt).cell 1; go_simp; exact rfl), ?_⟩); go_simp; refine hK _ ?_; clear hK K)
  refine bel_call rfl (fun K hK => ⟨_, _, _, (fun w' => by go_simp <;> first | exact rfl | exact ⟨rfl, rfl⟩), (fun w' hw => toTwo_any y _), ?_⟩); go_simp; refine hK _ ?_; clear hK K
  refine bel_call rfl (fun K hK => ⟨_, _, _, (fun w' => by go_simp <;> first | exact rfl | exact ⟨rfl, rfl⟩), (fun w' hw => HI.out _), ?_⟩); go_simp; refine hK _ ?_; clear hK K
  refine bel_nil ?_
  intro gn w' hw hgn hnew
  refine frame_out fun K hK => ?_
  go_simp
  refine hK _ ?_
  clear hK K

  go_wp2_with (first | (refine store_blk (cs' := #[.int .i64 v.1, .int .i64 v.2]) rfl rfl rfl rfl rfl hnew infoT rfl (ones2 _ _) ?_; intro U h6 hoth hbel; have h5U := hoth _ _ _ (by have := h5.lt; omega) (h5.on hw h5.lt); have hbU := hbel _ _ (by have := hbV.size; omega) (below_then hbV hw); clear hoth hbel hnew hgn hxV hyV hbV hw h5) | (refine load_blk rfl rfl rfl h6 Try.underlying25 infoT ?_) | (refine load_blk rfl rfl rfl h5U Try.underlying25 infoT ?_))
  refine (eqTwo_same v _).mono ?_
  rintro e w4 ⟨rfl, hb4⟩
  have hbb := below_then hbU hb4
  clear h6 h5U hbU hb4
  go_wp2
  go_ret
  exact ⟨rfl, hbb⟩

end Go.Proofs.Ytolmcmoimbennaa
