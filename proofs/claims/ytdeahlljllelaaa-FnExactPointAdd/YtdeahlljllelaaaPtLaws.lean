/-
  The walks of the laws on the functions of points.
  (-DROP-: what the seat lacks is left out.)
-/
import Derived.Test.YtdeahlljllelaaaPtT2
import Derived.Test.YtdeahlljllelaaaPtI
import Derived.OpenShut
namespace Go.Proofs.Ytdeahlljllelaaa
open Go.RowKit Go.ChangeShapes Go.WideShapes

theorem infoLP : (Try.prog.info? 47).map (·.size) = some 3 := by kernel_rfl

set_option maxHeartbeats 800000 in
set_option maxRecDepth 100000 in
theorem toPoint_any (P : Pt) (w : World) :
    Calls Try.prog 32 #[pv P] w fun e w' => e = .returned (pv P) ∧ Below w.heap.size w w' := by
  go_enter Try.func32, Try.ntmps32
  go_wp2
  obtain ⟨W, hW, hb, hx, hr, hv⟩ := boxes2r w 47 25 25 #[.int .i64 P.1, .int .i64 P.2.1, .bool P.2.2] #[.int .i64 P.1, .int .i64 P.2.1, .bool P.2.2] #[.int .i64 P.1, .int .i64 P.2.1, .bool P.2.2]
  rw [hW]
  refine bodyPost_ret_by (result_blk rfl rfl hr Try.underlying25 infoP) rfl ⟨rfl, hb⟩

set_option maxHeartbeats 800000 in
set_option maxRecDepth 100000 in
theorem eqPoint_same (P : Pt) (w : World) :
    Calls Try.prog 34 #[pv P, pv P] w fun e w' => e = .returned (.bool true) ∧ Below w.heap.size w w' := by
  go_enter Try.func34, Try.ntmps34
  go_wp2
  go_ret
  exact ⟨rfl, ((Below.refl _ _).alloc (Nat.le_refl _) _).alloc (by simp) _⟩

set_option maxHeartbeats 800000 in
set_option maxRecDepth 100000 in
theorem lawPointOk (P : Pt) (w : World) :
    Calls Try.prog 5 #[pv P] w fun e w' => e = .returned (.bool true) ∧ Below w.heap.size w w' := by
  have HS : Hid (∀ w, Calls Try.prog 31 #[pv P] w fun e w' => e = .returned (.bool (pOkB P)) ∧ Below w.heap.size w w') := sPOk_any P
  have HI : Hid (∀ w, Calls Try.prog 14 #[pv P] w fun e w' => e = .returned (.bool (pOkB P)) ∧ Below w.heap.size w w') := iPOk_any P
  generalize pOkB P = v at HS HI
  go_enter Try.func5, Try.ntmps5
  go_wp2_with fail
  obtain ⟨W, hW, hb, hx⟩ := box1 w 47 #[.int .i64 P.1, .int .i64 P.2.1, .bool P.2.2]
  rw [hW]
  clear hW
  refine (toPoint_any P _).mono ?_
  rintro e w1 ⟨rfl, hb1⟩
  go_wp2_with fail
  refine (HS.out _).mono ?_
  rintro e w2 ⟨rfl, hb2⟩
  have hc2 := below_then hb1 hb2
  have hx2 := hx.on hc2 hx.lt
  go_wp2_with (refine load_blk rfl rfl rfl hx2 Try.underlying47 infoLP ?_)
  refine (toPoint_any P _).mono ?_
  rintro e w3 ⟨rfl, hb3⟩
  go_wp2_with fail
  refine (HI.out _).mono ?_
  rintro e w4 ⟨rfl, hb4⟩
  have hbb := below_then (below_then (below_then hb hc2) hb3) hb4
  clear hb hx hb1 hb2 hc2 hx2 hb3 hb4
  cases v
  · go_wp2
    go_ret
    exact ⟨rfl, hbb⟩
  · go_wp2
    go_ret
    exact ⟨rfl, hbb⟩

set_option maxHeartbeats 800000 in
set_option maxRecDepth 100000 in
theorem lawPointNeg (P : Pt) (w : World) :
    Calls Try.prog 6 #[pv P] w fun e w' => e = .returned (.bool true) ∧ Below w.heap.size w w' := by
  have HS : Hid (∀ w, Calls Try.prog 33 #[pv P] w fun e w' => e = .returned (pv (pNeg P)) ∧ Below w.heap.size w w') := sNeg_any P
  have HI : Hid (∀ w, Calls Try.prog 13 #[pv P] w fun e w' => e = .returned (pv (pNeg P)) ∧ Below w.heap.size w w') := iNeg_any P
  generalize pNeg P = v at HS HI
  go_enter Try.func6, Try.ntmps6
  go_wp2_with fail
  obtain ⟨W, hW, hb, hx⟩ := box1 w 47 #[.int .i64 P.1, .int .i64 P.2.1, .bool P.2.2]
  rw [hW]
  clear hW
  refine (toPoint_any P _).mono ?_
  rintro e w1 ⟨rfl, hb1⟩
  go_wp2_with fail
  refine (HS.out _).mono ?_
  rintro e w2 ⟨rfl, hb2⟩
  have hc2 := below_then hb1 hb2
  have hx2 := hx.on hc2 hx.lt
  have hB2 := below_then hb hc2
  clear hb hx hb1 hb2 hc2
  go_wp2_with (refine load_blk rfl rfl rfl (hx2.alloc _) Try.underlying47 infoLP ?_)
  obtain ⟨V, hV, hbV, h3⟩ := box1 w2 25 #[.int .i64 v.1, .int .i64 v.2.1, .bool v.2.2]
  rw [hV]
  clear hV
  refine (toPoint_any P _).mono ?_
  rintro e w3 ⟨rfl, hb3⟩
  go_wp2_with fail
  refine (HI.out _).mono ?_
  rintro e w4 ⟨rfl, hb4⟩
  have hc4 := below_then hb3 hb4
  have h34 := h3.on hc4 h3.lt
  have hB4 := below_then (below_then hB2 hbV) hc4
  clear hb3 hb4 hc4 h3 hbV hB2 hx2
  have hB5 := below_then hB4 ((Below.refl _ w4).alloc (Nat.le_refl _) (.cells #[.int .i64 v.1, .int .i64 v.2.1, .bool v.2.2] 25))
  have h45 := Blk.new w4 25 #[.int .i64 v.1, .int .i64 v.2.1, .bool v.2.2]
  have h35 := h34.alloc (.cells #[.int .i64 v.1, .int .i64 v.2.1, .bool v.2.2] 25)
  clear h34 hB4
  go_wp2_with (first | (refine load_blk rfl rfl rfl h45 Try.underlying25 infoP ?_) | (refine load_blk rfl rfl rfl h35 Try.underlying25 infoP ?_))
  refine (eqPoint_same v _).mono ?_
  rintro e w5 ⟨rfl, hb5⟩
  have hbb := below_then hB5 hb5
  clear h45 h35 hB5 hb5
  go_wp2
  go_ret
  exact ⟨rfl, hbb⟩

set_option maxHeartbeats 800000 in
set_option maxRecDepth 100000 in
theorem lawPointTimes (k : Int) (P : Pt) (_hk : (Lit.int .i64 k).wf = true) (w : World) :
    Calls Try.prog 8 #[.int .i64 k, pv P] w fun e w' => e = .returned (.bool true) ∧ Below w.heap.size w w' := by
  have HS : Hid (∀ w, Calls Try.prog 27 #[.int .i64 k, pv P] w fun e w' => e = .returned (pv (pTimes k P)) ∧ Below w.heap.size w w') := sTimes_any k P
  have HI : Hid (∀ w, Calls Try.prog 15 #[.int .i64 k, pv P] w fun e w' => e = .returned (pv (pTimes k P)) ∧ Below w.heap.size w w') := iTimes_any k P
  generalize pTimes k P = v at HS HI
  go_enter Try.func8, Try.ntmps8
  go_wp2_with fail
  obtain ⟨W, hW, hb, hx⟩ := box1 w 47 #[.int .i64 P.1, .int .i64 P.2.1, .bool P.2.2]
  rw [hW]
  clear hW
  refine (toPoint_any P _).mono ?_
  rintro e w1 ⟨rfl, hb1⟩
  go_wp2_with fail
  refine (HS.out _).mono ?_
  rintro e w2 ⟨rfl, hb2⟩
  have hc2 := below_then hb1 hb2
  have hx2 := hx.on hc2 hx.lt
  have hB2 := below_then hb hc2
  clear hb hx hb1 hb2 hc2
  go_wp2_with (refine load_blk rfl rfl rfl (hx2.alloc _) Try.underlying47 infoLP ?_)
  obtain ⟨V, hV, hbV, h3⟩ := box1 w2 25 #[.int .i64 v.1, .int .i64 v.2.1, .bool v.2.2]
  rw [hV]
  clear hV
  refine (toPoint_any P _).mono ?_
  rintro e w3 ⟨rfl, hb3⟩
  go_wp2_with fail
  refine (HI.out _).mono ?_
  rintro e w4 ⟨rfl, hb4⟩
  have hc4 := below_then hb3 hb4
  have h34 := h3.on hc4 h3.lt
  have hB4 := below_then (below_then hB2 hbV) hc4
  clear hb3 hb4 hc4 h3 hbV hB2 hx2
  have hB5 := below_then hB4 ((Below.refl _ w4).alloc (Nat.le_refl _) (.cells #[.int .i64 v.1, .int .i64 v.2.1, .bool v.2.2] 25))
  have h45 := Blk.new w4 25 #[.int .i64 v.1, .int .i64 v.2.1, .bool v.2.2]
  have h35 := h34.alloc (.cells #[.int .i64 v.1, .int .i64 v.2.1, .bool v.2.2] 25)
  clear h34 hB4
  go_wp2_with (first | (refine load_blk rfl rfl rfl h45 Try.underlying25 infoP ?_) | (refine load_blk rfl rfl rfl h35 Try.underlying25 infoP ?_))
  refine (eqPoint_same v _).mono ?_
  rintro e w5 ⟨rfl, hb5⟩
  have hbb := below_then hB5 hb5
  clear h45 h35 hB5 hb5
  go_wp2
  go_ret
  exact ⟨rfl, hbb⟩

set_option maxHeartbeats 800000 in
set_option maxRecDepth 100000 in
theorem lawPointAdd (P Q : Pt) (w : World) :
    Calls Try.prog 7 #[pv P, pv Q] w fun e w' => e = .returned (.bool true) ∧ Below w.heap.size w w' := by
  have HS : Hid (∀ w, Calls Try.prog 26 #[pv P, pv Q] w fun e w' => e = .returned (pv (pSum P Q)) ∧ Below w.heap.size w w') := sPAdd_any P Q
  have HI : Hid (∀ w, Calls Try.prog 11 #[pv P, pv Q] w fun e w' => e = .returned (pv (pSum P Q)) ∧ Below w.heap.size w w') := iPAdd_any P Q
  generalize pSum P Q = v at HS HI
  go_enter Try.func7, Try.ntmps7
  go_wp2
  obtain ⟨W, hW, hb, hx, hy⟩ := boxes1r w 47 47 #[.int .i64 P.1, .int .i64 P.2.1, .bool P.2.2] #[.int .i64 Q.1, .int .i64 Q.2.1, .bool Q.2.2]
  rw [hW]
  clear hW
  refine wp_region_made 5 mixes (by kernel_rfl) rfl rfl (fun a w => by go_simp <;> rfl) ?_
  simp only [List.take_succ_cons, List.take_zero, List.drop_succ_cons, List.drop_zero]
  repeat (refine bel_step rfl (fun K hK => ⟨_, (fun w' hw => by have q0 := (hx.on hw hx.lt).cell 0; have q1 := (hx.on hw hx.lt).cell 1; have q2 := (hx.on hw hx.lt).cell 2; have q3 := (hy.on hw hy.lt).cell 0; have q4 := (hy.on hw hy.lt).cell 1; have q5 := (hy.on hw hy.lt).cell 2; go_simp; exact rfl), ?_⟩); go_simp; refine hK _ ?_; clear hK K)
  refine bel_call rfl (fun K hK => ⟨_, _, _, (fun w' => by go_simp <;> first | exact rfl | exact ⟨rfl, rfl⟩), (fun w' hw => toPoint_any P _), ?_⟩); go_simp; refine hK _ ?_; clear hK K
  repeat (refine bel_step rfl (fun K hK => ⟨_, (fun w' hw => by have q0 := (hx.on hw hx.lt).cell 0; have q1 := (hx.on hw hx.lt).cell 1; have q2 := (hx.on hw hx.lt).cell 2; have q3 := (hy.on hw hy.lt).cell 0; have q4 := (hy.on hw hy.lt).cell 1; have q5 := (hy.on hw hy.lt).cell 2; go_simp; exact rfl), ?_⟩); go_simp; refine hK _ ?_; clear hK K)
  refine bel_call rfl (fun K hK => ⟨_, _, _, (fun w' => by go_simp <;> first | exact rfl | exact ⟨rfl, rfl⟩), (fun w' hw => toPoint_any Q _), ?_⟩); go_simp; refine hK _ ?_; clear hK K
  refine bel_call rfl (fun K hK => ⟨_, _, _, (fun w' => by go_simp <;> first | exact rfl | exact ⟨rfl, rfl⟩), (fun w' hw => HS.out _), ?_⟩); go_simp; refine hK _ ?_; clear hK K
  refine bel_nil ?_
  intro gn w' hw hgn hnew
  refine frame_out fun K hK => ?_
  go_simp
  refine hK _ ?_
  clear hK K
  go_wp2_with (refine store_blk (cs' := #[.int .i64 v.1, .int .i64 v.2.1, .bool v.2.2]) rfl rfl rfl rfl rfl hnew infoP rfl (ones3 _ _ _) ?_; intro V h5 hoth hbel; have hxV := hoth _ _ _ (by have := hx.lt; omega) (hx.on hw hx.lt); have hyV := hoth _ _ _ (by have := hy.lt; omega) (hy.on hw hy.lt); have hbV := hbel _ _ (by have := hx.lt; omega) (below_then hb hw); clear hoth hbel hnew hgn hx hy hb hw)
  refine wp_region_made 5 mixes (by kernel_rfl) rfl rfl (fun a w => by go_simp <;> rfl) ?_
  simp only [List.take_succ_cons, List.take_zero, List.drop_succ_cons, List.drop_zero]
  repeat (refine bel_step rfl (fun K hK => ⟨_, (fun w' hw => by have q0 := (hxV.on hw hxV.lt).cell 0; have q1 := (hxV.on hw hxV.lt).cell 1; have q2 := (hxV.on hw hxV.lt).cell 2; have q3 := (hyV.on hw hyV.lt).cell 0; have q4 := (hyV.on hw hyV.lt).cell 1; have q5 := (hyV.on hw hyV.lt).cell 2; go_simp; exact rfl), ?_⟩); go_simp; refine hK _ ?_; clear hK K)
  refine bel_call rfl (fun K hK => ⟨_, _, _, (fun w' => by go_simp <;> first | exact rfl | exact ⟨rfl, rfl⟩), (fun w' hw => toPoint_any P _), ?_⟩); go_simp; refine hK _ ?_; clear hK K
  repeat (refine bel_step rfl (fun K hK => ⟨_, (fun w' hw => by have q0 := (hxV.on hw hxV.lt).cell 0; have q1 := (hxV.on hw hxV.lt).cell 1; have q2 := (hxV.on hw hxV.lt).cell 2; have q3 := (hyV.on hw hyV.lt).cell 0; have q4 := (hyV.on hw hyV.lt).cell 1; have q5 := (hyV.on hw hyV.lt).cell 2; go_simp; exact rfl), ?_⟩); go_simp; refine hK _ ?_; clear hK K)
  refine bel_call rfl (fun K hK => ⟨_, _, _, (fun w' => by go_simp <;> first | exact rfl | exact ⟨rfl, rfl⟩), (fun w' hw => toPoint_any Q _), ?_⟩); go_simp; refine hK _ ?_; clear hK K
  refine bel_call rfl (fun K hK => ⟨_, _, _, (fun w' => by go_simp <;> first | exact rfl | exact ⟨rfl, rfl⟩), (fun w' hw => HI.out _), ?_⟩); go_simp; refine hK _ ?_; clear hK K
  refine bel_nil ?_
  intro gn w' hw hgn hnew
  refine frame_out fun K hK => ?_
  go_simp
  refine hK _ ?_
  clear hK K
  go_wp2_with (first | (refine store_blk (cs' := #[.int .i64 v.1, .int .i64 v.2.1, .bool v.2.2]) rfl rfl rfl rfl rfl hnew infoP rfl (ones3 _ _ _) ?_; intro U h6 hoth hbel; have h5U := hoth _ _ _ (by have := h5.lt; omega) (h5.on hw h5.lt); have hbU := hbel _ _ (by have := hbV.size; omega) (below_then hbV hw); clear hoth hbel hnew hgn hxV hyV hbV hw h5) | (refine load_blk rfl rfl rfl h6 Try.underlying25 infoP ?_) | (refine load_blk rfl rfl rfl h5U Try.underlying25 infoP ?_))
  refine (eqPoint_same v _).mono ?_
  rintro e w4 ⟨rfl, hb4⟩
  have hbb := below_then hbU hb4
  clear h6 h5U hbU hb4
  go_wp2
  go_ret
  exact ⟨rfl, hbb⟩

end Go.Proofs.Ytdeahlljllelaaa
