/-
  The walks of the exact laws on pairs.
  (-DROP-: what the seat lacks is left out.)
-/
import Derived.Test.YtckhbflolccinaaPairS4
import Derived.Test.YtckhbflolccinaaJoined51
import Derived.Test.YtckhbflolccinaaPtRow
namespace Go.Proofs.Ytckhbflolccinaa
open Go.RowKit

set_option maxHeartbeats 800000 in
set_option maxRecDepth 100000 in
theorem eqTwo_same (x : Int × Int) (w : World) :
    Calls Try.prog 30 #[tv x, tv x] w fun e w' => e = .returned (.bool true) ∧ Below w.heap.size w w' := by
  go_enter Try.func30, Try.ntmps30
  go_wp2
  go_ret
  exact ⟨rfl, ((Below.refl _ _).alloc (Nat.le_refl _) _).alloc (by simp) _⟩

set_option maxHeartbeats 1600000 in
set_option maxRecDepth 100000 in
theorem lawMiller (P Q : Pt) (w : World) :
    Calls Try.prog 6 #[pv P, pv Q] w fun e w' => e = .returned (.bool true) ∧ Below w.heap.size w w' := by
  have HS : Hid (∀ w, Calls Try.prog 27 #[pv P, pv Q] w fun e w' => e = .returned (tv (millS P Q)) ∧ Below w.heap.size w w') := sMiller_any P Q
  have HI : Hid (∀ w, Calls Try.prog 26 #[pv P, pv Q] w fun e w' => e = .returned (tv (millS P Q)) ∧ Below w.heap.size w w') := iMiller_any P Q
  generalize millS P Q = v at HS HI
  go_enter Try.func6, Try.ntmps6
  go_wp2
  obtain ⟨W, hW, hb, h0, h1⟩ := boxes1r w 46 46 #[.int .i64 P.1, .int .i64 P.2.1, .bool P.2.2] #[.int .i64 Q.1, .int .i64 Q.2.1, .bool Q.2.2]
  rw [hW]
  clear hW
  refine wp_region_made 5 mixes (by kernel_rfl) rfl rfl (fun a w => by go_simp <;> rfl) ?_
  simp only [List.take_succ_cons, List.take_zero, List.drop_succ_cons, List.drop_zero]
  repeat (refine bel_step rfl (fun K hK => ⟨_, (fun w' hw => by have q0 := (h0.on hw h0.lt).cell 0; have q1 := (h0.on hw h0.lt).cell 1; have q2 := (h0.on hw h0.lt).cell 2; have q3 := (h1.on hw h1.lt).cell 0; have q4 := (h1.on hw h1.lt).cell 1; have q5 := (h1.on hw h1.lt).cell 2; go_simp; exact rfl), ?_⟩); go_simp; refine hK _ ?_; clear hK K)
  refine bel_call rfl (fun K hK => ⟨_, _, _, (fun w' => by go_simp <;> first | exact rfl | exact ⟨rfl, rfl⟩), (fun w' hw => toPoint_any P _), ?_⟩); go_simp; refine hK _ ?_; clear hK K
  repeat (refine bel_step rfl (fun K hK => ⟨_, (fun w' hw => by have q0 := (h0.on hw h0.lt).cell 0; have q1 := (h0.on hw h0.lt).cell 1; have q2 := (h0.on hw h0.lt).cell 2; have q3 := (h1.on hw h1.lt).cell 0; have q4 := (h1.on hw h1.lt).cell 1; have q5 := (h1.on hw h1.lt).cell 2; go_simp; exact rfl), ?_⟩); go_simp; refine hK _ ?_; clear hK K)
  refine bel_call rfl (fun K hK => ⟨_, _, _, (fun w' => by go_simp <;> first | exact rfl | exact ⟨rfl, rfl⟩), (fun w' hw => toPoint_any Q _), ?_⟩); go_simp; refine hK _ ?_; clear hK K
  refine bel_call rfl (fun K hK => ⟨_, _, _, (fun w' => by go_simp <;> first | exact rfl | exact ⟨rfl, rfl⟩), (fun w' hw => HS.out _), ?_⟩); go_simp; refine hK _ ?_; clear hK K
  refine bel_nil ?_
  intro gn w' hw hgn hnew
  refine frame_out fun K hK => ?_
  go_simp
  refine hK _ ?_
  clear hK K
  go_wp2_with (refine store_blk (cs' := #[.int .i64 v.1, .int .i64 v.2]) rfl rfl rfl rfl rfl hnew infoT rfl (ones2 _ _) ?_; intro V h5 hoth hbel; have h0V := hoth _ _ _ (by have := h0.lt; omega) (h0.on hw h0.lt); have h1V := hoth _ _ _ (by have := h1.lt; omega) (h1.on hw h1.lt); have hbV := hbel _ _ (by have := h0.lt; omega) (below_then hb hw); clear hoth hbel hnew hgn h0 h1 hb hw)
  refine wp_region_made 5 mixes (by kernel_rfl) rfl rfl (fun a w => by go_simp <;> rfl) ?_
  simp only [List.take_succ_cons, List.take_zero, List.drop_succ_cons, List.drop_zero]
  repeat (refine bel_step rfl (fun K hK => ⟨_, (fun w' hw => by have q0 := (h0V.on hw h0V.lt).cell 0; have q1 := (h0V.on hw h0V.lt).cell 1; have q2 := (h0V.on hw h0V.lt).cell 2; have q3 := (h1V.on hw h1V.lt).cell 0; have q4 := (h1V.on hw h1V.lt).cell 1; have q5 := (h1V.on hw h1V.lt).cell 2; go_simp; exact rfl), ?_⟩); go_simp; refine hK _ ?_; clear hK K)
  refine bel_call rfl (fun K hK => ⟨_, _, _, (fun w' => by go_simp <;> first | exact rfl | exact ⟨rfl, rfl⟩), (fun w' hw => toPoint_any P _), ?_⟩); go_simp; refine hK _ ?_; clear hK K
  repeat (refine bel_step rfl (fun K hK => ⟨_, (fun w' hw => by have q0 := (h0V.on hw h0V.lt).cell 0; have q1 := (h0V.on hw h0V.lt).cell 1; have q2 := (h0V.on hw h0V.lt).cell 2; have q3 := (h1V.on hw h1V.lt).cell 0; have q4 := (h1V.on hw h1V.lt).cell 1; have q5 := (h1V.on hw h1V.lt).cell 2; go_simp; exact rfl), ?_⟩); go_simp; refine hK _ ?_; clear hK K)
  refine bel_call rfl (fun K hK => ⟨_, _, _, (fun w' => by go_simp <;> first | exact rfl | exact ⟨rfl, rfl⟩), (fun w' hw => toPoint_any Q _), ?_⟩); go_simp; refine hK _ ?_; clear hK K
  refine bel_call rfl (fun K hK => ⟨_, _, _, (fun w' => by go_simp <;> first | exact rfl | exact ⟨rfl, rfl⟩), (fun w' hw => HI.out _), ?_⟩); go_simp; refine hK _ ?_; clear hK K
  refine bel_nil ?_
  intro gn w' hw hgn hnew
  refine frame_out fun K hK => ?_
  go_simp
  refine hK _ ?_
  clear hK K
  go_wp2_with (first | (refine store_blk (cs' := #[.int .i64 v.1, .int .i64 v.2]) rfl rfl rfl rfl rfl hnew infoT rfl (ones2 _ _) ?_; intro U h6 hoth hbel; have h5U := hoth _ _ _ (by have := h5.lt; omega) (h5.on hw h5.lt); have hbU := hbel _ _ (by have := hbV.size; omega) (below_then hbV hw); clear hoth hbel hnew hgn h0V h1V hbV hw h5) | (refine load_blk rfl rfl rfl h6 Try.underlying31 infoT ?_) | (refine load_blk rfl rfl rfl h5U Try.underlying31 infoT ?_))
  refine (eqTwo_same v _).mono ?_
  rintro e w4 ⟨rfl, hb4⟩
  have hbb := below_then hbU hb4
  clear h6 h5U hbU hb4
  go_wp2
  go_ret
  exact ⟨rfl, hbb⟩

set_option maxHeartbeats 1600000 in
set_option maxRecDepth 100000 in
theorem lawPairing (P Q : Pt) (w : World) :
    Calls Try.prog 7 #[pv P, pv Q] w fun e w' => e = .returned (.bool true) ∧ Below w.heap.size w w' := by
  have HS : Hid (∀ w, Calls Try.prog 17 #[pv P, pv Q] w fun e w' => e = .returned (tv (pairS P Q)) ∧ Below w.heap.size w w') := sPairing_any P Q
  have HI : Hid (∀ w, Calls Try.prog 12 #[pv P, pv Q] w fun e w' => e = .returned (tv (pairS P Q)) ∧ Below w.heap.size w w') := iPairing_any P Q
  generalize pairS P Q = v at HS HI
  go_enter Try.func7, Try.ntmps7
  go_wp2
  obtain ⟨W, hW, hb, h0, h1⟩ := boxes1r w 46 46 #[.int .i64 P.1, .int .i64 P.2.1, .bool P.2.2] #[.int .i64 Q.1, .int .i64 Q.2.1, .bool Q.2.2]
  rw [hW]
  clear hW
  refine wp_region_made 5 mixes (by kernel_rfl) rfl rfl (fun a w => by go_simp <;> rfl) ?_
  simp only [List.take_succ_cons, List.take_zero, List.drop_succ_cons, List.drop_zero]
  repeat (refine bel_step rfl (fun K hK => ⟨_, (fun w' hw => by have q0 := (h0.on hw h0.lt).cell 0; have q1 := (h0.on hw h0.lt).cell 1; have q2 := (h0.on hw h0.lt).cell 2; have q3 := (h1.on hw h1.lt).cell 0; have q4 := (h1.on hw h1.lt).cell 1; have q5 := (h1.on hw h1.lt).cell 2; go_simp; exact rfl), ?_⟩); go_simp; refine hK _ ?_; clear hK K)
  refine bel_call rfl (fun K hK => ⟨_, _, _, (fun w' => by go_simp <;> first | exact rfl | exact ⟨rfl, rfl⟩), (fun w' hw => toPoint_any P _), ?_⟩); go_simp; refine hK _ ?_; clear hK K
  repeat (refine bel_step rfl (fun K hK => ⟨_, (fun w' hw => by have q0 := (h0.on hw h0.lt).cell 0; have q1 := (h0.on hw h0.lt).cell 1; have q2 := (h0.on hw h0.lt).cell 2; have q3 := (h1.on hw h1.lt).cell 0; have q4 := (h1.on hw h1.lt).cell 1; have q5 := (h1.on hw h1.lt).cell 2; go_simp; exact rfl), ?_⟩); go_simp; refine hK _ ?_; clear hK K)
  refine bel_call rfl (fun K hK => ⟨_, _, _, (fun w' => by go_simp <;> first | exact rfl | exact ⟨rfl, rfl⟩), (fun w' hw => toPoint_any Q _), ?_⟩); go_simp; refine hK _ ?_; clear hK K
  refine bel_call rfl (fun K hK => ⟨_, _, _, (fun w' => by go_simp <;> first | exact rfl | exact ⟨rfl, rfl⟩), (fun w' hw => HS.out _), ?_⟩); go_simp; refine hK _ ?_; clear hK K
  refine bel_nil ?_
  intro gn w' hw hgn hnew
  refine frame_out fun K hK => ?_
  go_simp
  refine hK _ ?_
  clear hK K
  go_wp2_with (refine store_blk (cs' := #[.int .i64 v.1, .int .i64 v.2]) rfl rfl rfl rfl rfl hnew infoT rfl (ones2 _ _) ?_; intro V h5 hoth hbel; have h0V := hoth _ _ _ (by have := h0.lt; omega) (h0.on hw h0.lt); have h1V := hoth _ _ _ (by have := h1.lt; omega) (h1.on hw h1.lt); have hbV := hbel _ _ (by have := h0.lt; omega) (below_then hb hw); clear hoth hbel hnew hgn h0 h1 hb hw)
  refine wp_region_made 5 mixes (by kernel_rfl) rfl rfl (fun a w => by go_simp <;> rfl) ?_
  simp only [List.take_succ_cons, List.take_zero, List.drop_succ_cons, List.drop_zero]
  repeat (refine bel_step rfl (fun K hK => ⟨_, (fun w' hw => by have q0 := (h0V.on hw h0V.lt).cell 0; have q1 := (h0V.on hw h0V.lt).cell 1; have q2 := (h0V.on hw h0V.lt).cell 2; have q3 := (h1V.on hw h1V.lt).cell 0; have q4 := (h1V.on hw h1V.lt).cell 1; have q5 := (h1V.on hw h1V.lt).cell 2; go_simp; exact rfl), ?_⟩); go_simp; refine hK _ ?_; clear hK K)
  refine bel_call rfl (fun K hK => ⟨_, _, _, (fun w' => by go_simp <;> first | exact rfl | exact ⟨rfl, rfl⟩), (fun w' hw => toPoint_any P _), ?_⟩); go_simp; refine hK _ ?_; clear hK K
  repeat (refine bel_step rfl (fun K hK => ⟨_, (fun w' hw => by have q0 := (h0V.on hw h0V.lt).cell 0; have q1 := (h0V.on hw h0V.lt).cell 1; have q2 := (h0V.on hw h0V.lt).cell 2; have q3 := (h1V.on hw h1V.lt).cell 0; have q4 := (h1V.on hw h1V.lt).cell 1; have q5 := (h1V.on hw h1V.lt).cell 2; go_simp; exact rfl), ?_⟩); go_simp; refine hK _ ?_; clear hK K)
  refine bel_call rfl (fun K hK => ⟨_, _, _, (fun w' => by go_simp <;> first | exact rfl | exact ⟨rfl, rfl⟩), (fun w' hw => toPoint_any Q _), ?_⟩); go_simp; refine hK _ ?_; clear hK K
  refine bel_call rfl (fun K hK => ⟨_, _, _, (fun w' => by go_simp <;> first | exact rfl | exact ⟨rfl, rfl⟩), (fun w' hw => HI.out _), ?_⟩); go_simp; refine hK _ ?_; clear hK K
  refine bel_nil ?_
  intro gn w' hw hgn hnew
  refine frame_out fun K hK => ?_
  go_simp
  refine hK _ ?_
  clear hK K
  go_wp2_with (first | (refine store_blk (cs' := #[.int .i64 v.1, .int .i64 v.2]) rfl rfl rfl rfl rfl hnew infoT rfl (ones2 _ _) ?_; intro U h6 hoth hbel; have h5U := hoth _ _ _ (by have := h5.lt; omega) (h5.on hw h5.lt); have hbU := hbel _ _ (by have := hbV.size; omega) (below_then hbV hw); clear hoth hbel hnew hgn h0V h1V hbV hw h5) | (refine load_blk rfl rfl rfl h6 Try.underlying31 infoT ?_) | (refine load_blk rfl rfl rfl h5U Try.underlying31 infoT ?_))
  refine (eqTwo_same v _).mono ?_
  rintro e w4 ⟨rfl, hb4⟩
  have hbb := below_then hbU hb4
  clear h6 h5U hbU hb4
  go_wp2
  go_ret
  exact ⟨rfl, hbb⟩

set_option maxHeartbeats 1600000 in
set_option maxRecDepth 100000 in
theorem lawPairLine (P Q R : Pt) (w : World) :
    Calls Try.prog 5 #[pv P, pv Q, pv R] w fun e w' => e = .returned (.bool true) ∧ Below w.heap.size w w' := by
  have HS : Hid (∀ w, Calls Try.prog 25 #[pv P, pv Q, pv R] w fun e w' => e = .returned (tv (pLineB P Q R)) ∧ Below w.heap.size w w') := sLine_any P Q R
  have HI : Hid (∀ w, Calls Try.prog 24 #[pv P, pv Q, pv R] w fun e w' => e = .returned (tv (pLineB P Q R)) ∧ Below w.heap.size w w') := iLine_any P Q R
  generalize pLineB P Q R = v at HS HI
  go_enter Try.func5, Try.ntmps5
  go_wp2
  obtain ⟨W, hW, hb, h0, h1, h2⟩ := boxes2r w 46 46 46 #[.int .i64 P.1, .int .i64 P.2.1, .bool P.2.2] #[.int .i64 Q.1, .int .i64 Q.2.1, .bool Q.2.2] #[.int .i64 R.1, .int .i64 R.2.1, .bool R.2.2]
  rw [hW]
  clear hW
  refine wp_region_made 7 mixes (by kernel_rfl) rfl rfl (fun a w => by go_simp <;> rfl) ?_
  simp only [List.take_succ_cons, List.take_zero, List.drop_succ_cons, List.drop_zero]
  repeat (refine bel_step rfl (fun K hK => ⟨_, (fun w' hw => by have q0 := (h0.on hw h0.lt).cell 0; have q1 := (h0.on hw h0.lt).cell 1; have q2 := (h0.on hw h0.lt).cell 2; have q3 := (h1.on hw h1.lt).cell 0; have q4 := (h1.on hw h1.lt).cell 1; have q5 := (h1.on hw h1.lt).cell 2; have q6 := (h2.on hw h2.lt).cell 0; have q7 := (h2.on hw h2.lt).cell 1; have q8 := (h2.on hw h2.lt).cell 2; go_simp; exact rfl), ?_⟩); go_simp; refine hK _ ?_; clear hK K)
  refine bel_call rfl (fun K hK => ⟨_, _, _, (fun w' => by go_simp <;> first | exact rfl | exact ⟨rfl, rfl⟩), (fun w' hw => toPoint_any P _), ?_⟩); go_simp; refine hK _ ?_; clear hK K
  repeat (refine bel_step rfl (fun K hK => ⟨_, (fun w' hw => by have q0 := (h0.on hw h0.lt).cell 0; have q1 := (h0.on hw h0.lt).cell 1; have q2 := (h0.on hw h0.lt).cell 2; have q3 := (h1.on hw h1.lt).cell 0; have q4 := (h1.on hw h1.lt).cell 1; have q5 := (h1.on hw h1.lt).cell 2; have q6 := (h2.on hw h2.lt).cell 0; have q7 := (h2.on hw h2.lt).cell 1; have q8 := (h2.on hw h2.lt).cell 2; go_simp; exact rfl), ?_⟩); go_simp; refine hK _ ?_; clear hK K)
  refine bel_call rfl (fun K hK => ⟨_, _, _, (fun w' => by go_simp <;> first | exact rfl | exact ⟨rfl, rfl⟩), (fun w' hw => toPoint_any Q _), ?_⟩); go_simp; refine hK _ ?_; clear hK K
  repeat (refine bel_step rfl (fun K hK => ⟨_, (fun w' hw => by have q0 := (h0.on hw h0.lt).cell 0; have q1 := (h0.on hw h0.lt).cell 1; have q2 := (h0.on hw h0.lt).cell 2; have q3 := (h1.on hw h1.lt).cell 0; have q4 := (h1.on hw h1.lt).cell 1; have q5 := (h1.on hw h1.lt).cell 2; have q6 := (h2.on hw h2.lt).cell 0; have q7 := (h2.on hw h2.lt).cell 1; have q8 := (h2.on hw h2.lt).cell 2; go_simp; exact rfl), ?_⟩); go_simp; refine hK _ ?_; clear hK K)
  refine bel_call rfl (fun K hK => ⟨_, _, _, (fun w' => by go_simp <;> first | exact rfl | exact ⟨rfl, rfl⟩), (fun w' hw => toPoint_any R _), ?_⟩); go_simp; refine hK _ ?_; clear hK K
  refine bel_call rfl (fun K hK => ⟨_, _, _, (fun w' => by go_simp <;> first | exact rfl | exact ⟨rfl, rfl⟩), (fun w' hw => HS.out _), ?_⟩); go_simp; refine hK _ ?_; clear hK K
  refine bel_nil ?_
  intro gn w' hw hgn hnew
  refine frame_out fun K hK => ?_
  go_simp
  refine hK _ ?_
  clear hK K
  go_wp2_with (refine store_blk (cs' := #[.int .i64 v.1, .int .i64 v.2]) rfl rfl rfl rfl rfl hnew infoT rfl (ones2 _ _) ?_; intro V h5 hoth hbel; have h0V := hoth _ _ _ (by have := h0.lt; omega) (h0.on hw h0.lt); have h1V := hoth _ _ _ (by have := h1.lt; omega) (h1.on hw h1.lt); have h2V := hoth _ _ _ (by have := h2.lt; omega) (h2.on hw h2.lt); have hbV := hbel _ _ (by have := h0.lt; omega) (below_then hb hw); clear hoth hbel hnew hgn h0 h1 h2 hb hw)
  refine wp_region_made 7 mixes (by kernel_rfl) rfl rfl (fun a w => by go_simp <;> rfl) ?_
  simp only [List.take_succ_cons, List.take_zero, List.drop_succ_cons, List.drop_zero]
  repeat (refine bel_step rfl (fun K hK => ⟨_, (fun w' hw => by have q0 := (h0V.on hw h0V.lt).cell 0; have q1 := (h0V.on hw h0V.lt).cell 1; have q2 := (h0V.on hw h0V.lt).cell 2; have q3 := (h1V.on hw h1V.lt).cell 0; have q4 := (h1V.on hw h1V.lt).cell 1; have q5 := (h1V.on hw h1V.lt).cell 2; have q6 := (h2V.on hw h2V.lt).cell 0; have q7 := (h2V.on hw h2V.lt).cell 1; have q8 := (h2V.on hw h2V.lt).cell 2; go_simp; exact rfl), ?_⟩); go_simp; refine hK _ ?_; clear hK K)
  refine bel_call rfl (fun K hK => ⟨_, _, _, (fun w' => by go_simp <;> first | exact rfl | exact ⟨rfl, rfl⟩), (fun w' hw => toPoint_any P _), ?_⟩); go_simp; refine hK _ ?_; clear hK K
  repeat (refine bel_step rfl (fun K hK => ⟨_, (fun w' hw => by have q0 := (h0V.on hw h0V.lt).cell 0; have q1 := (h0V.on hw h0V.lt).cell 1; have q2 := (h0V.on hw h0V.lt).cell 2; have q3 := (h1V.on hw h1V.lt).cell 0; have q4 := (h1V.on hw h1V.lt).cell 1; have q5 := (h1V.on hw h1V.lt).cell 2; have q6 := (h2V.on hw h2V.lt).cell 0; have q7 := (h2V.on hw h2V.lt).cell 1; have q8 := (h2V.on hw h2V.lt).cell 2; go_simp; exact rfl), ?_⟩); go_simp; refine hK _ ?_; clear hK K)
  refine bel_call rfl (fun K hK => ⟨_, _, _, (fun w' => by go_simp <;> first | exact rfl | exact ⟨rfl, rfl⟩), (fun w' hw => toPoint_any Q _), ?_⟩); go_simp; refine hK _ ?_; clear hK K
  repeat (refine bel_step rfl (fun K hK => ⟨_, (fun w' hw => by have q0 := (h0V.on hw h0V.lt).cell 0; have q1 := (h0V.on hw h0V.lt).cell 1; have q2 := (h0V.on hw h0V.lt).cell 2; have q3 := (h1V.on hw h1V.lt).cell 0; have q4 := (h1V.on hw h1V.lt).cell 1; have q5 := (h1V.on hw h1V.lt).cell 2; have q6 := (h2V.on hw h2V.lt).cell 0; have q7 := (h2V.on hw h2V.lt).cell 1; have q8 := (h2V.on hw h2V.lt).cell 2; go_simp; exact rfl), ?_⟩); go_simp; refine hK _ ?_; clear hK K)
  refine bel_call rfl (fun K hK => ⟨_, _, _, (fun w' => by go_simp <;> first | exact rfl | exact ⟨rfl, rfl⟩), (fun w' hw => toPoint_any R _), ?_⟩); go_simp; refine hK _ ?_; clear hK K
  refine bel_call rfl (fun K hK => ⟨_, _, _, (fun w' => by go_simp <;> first | exact rfl | exact ⟨rfl, rfl⟩), (fun w' hw => HI.out _), ?_⟩); go_simp; refine hK _ ?_; clear hK K
  refine bel_nil ?_
  intro gn w' hw hgn hnew
  refine frame_out fun K hK => ?_
  go_simp
  refine hK _ ?_
  clear hK K
  go_wp2_with (first | (refine store_blk (cs' := #[.int .i64 v.1, .int .i64 v.2]) rfl rfl rfl rfl rfl hnew infoT rfl (ones2 _ _) ?_; intro U h6 hoth hbel; have h5U := hoth _ _ _ (by have := h5.lt; omega) (h5.on hw h5.lt); have hbU := hbel _ _ (by have := hbV.size; omega) (below_then hbV hw); clear hoth hbel hnew hgn h0V h1V h2V hbV hw h5) | (refine load_blk rfl rfl rfl h6 Try.underlying31 infoT ?_) | (refine load_blk rfl rfl rfl h5U Try.underlying31 infoT ?_))
  refine (eqTwo_same v _).mono ?_
  rintro e w4 ⟨rfl, hb4⟩
  have hbb := below_then hbU hb4
  clear h6 h5U hbU hb4
  go_wp2
  go_ret
  exact ⟨rfl, hbb⟩

set_option maxHeartbeats 1600000 in
set_option maxRecDepth 100000 in
theorem lawPairsRight (a : Option Addr) (n c : Nat) (b : Option Addr) (m d : Nat) (hn : n ≤ 9223372036854775807) (hm : m ≤ 9223372036854775807) (f g : Nat → Pt) (w : World) (hA : PtsAt w a n w.heap.size f) (hB : PtsAt w b m w.heap.size g) :
    Calls Try.prog 8 #[.slice a n c, .slice b m d] w fun e w' => e = .returned (.bool true) ∧ Below w.heap.size w w' := by
  have HA : Hid (PtsAt w a n w.heap.size f) := hA
  have HB : Hid (PtsAt w b m w.heap.size g) := hB
  clear hA hB
  have HZ : Hid (∀ w, Calls Try.prog 31 #[.slice a n c, .int .i64 1048576] w fun e w' => e = .returned (.int .i64 (if 1048576 < n then -1 else 1048576 - (n : Int))) ∧ w = w') := szPointS_any a n c hn
  by_cases h1 : 1048576 < n
  · rw [if_pos h1] at HZ
    go_enter Try.func8, Try.ntmps8
    go_wp2_with (go_at_call 31; refine (HZ.out _).mono ?_; rintro e w0 ⟨rfl, rfl⟩)
    go_ret
    exact ⟨rfl, Below.refl _ _⟩
  rw [if_neg h1] at HZ
  have hn1 : n ≤ 1048576 := by omega
  obtain ⟨L, hL⟩ : ∃ L : Nat, L = 1048576 - n := ⟨_, rfl⟩
  have hLi : 1048576 - (n : Int) = (L : Int) := by omega
  have hL1 : L ≤ 1048576 := by omega
  rw [hLi] at HZ
  have h1' : ¬ (L : Int) < 0 := by omega
  have HY : Hid (∀ w, Calls Try.prog 31 #[.slice b m d, .int .i64 (L : Int)] w fun e w' => e = .returned (.int .i64 (if L < m then -1 else (L : Int) - (m : Int))) ∧ w = w') := szPointS_at b m d L hm hL1
  clear hL
  by_cases h2 : L < m
  · rw [if_pos h2] at HY
    go_enter Try.func8, Try.ntmps8
    go_wp2_with fail
    refine (HZ.out _).mono ?_
    rintro e w0 ⟨rfl, rfl⟩
    go_wp2_with fail
    refine (HY.out _).mono ?_
    rintro e w0 ⟨rfl, rfl⟩
    go_wp2
    go_ret
    exact ⟨rfl, Below.refl _ _⟩
  rw [if_neg h2] at HY
  have hm1 : m ≤ 1048576 := by omega
  have h2' : ¬ (L : Int) - (m : Int) < 0 := by omega
  go_enter Try.func8, Try.ntmps8
  go_wp2_with fail
  refine (HZ.out _).mono ?_
  rintro e w0 ⟨rfl, rfl⟩
  go_wp2_with fail
  refine (HY.out _).mono ?_
  rintro e w0 ⟨rfl, rfl⟩
  clear HZ HY
  go_wp2_with fail
  refine (toPointS_any a n c hn1 f _ HA.out).mono ?_
  rintro e w1 ⟨rfl, hR1, hb1⟩
  have HR1 : Hid (RowPt w1 w.heap.size n f) := hR1
  have HW1 : Hid (Below w.heap.size w w1) := hb1
  clear hR1 hb1
  go_wp2_with fail
  refine (toPointS_any b m d hm1 g _ ((HB.out.on HW1.out).wide HW1.out.size)).mono ?_
  rintro e w2 ⟨rfl, hR2, hb2⟩
  have HR2 : Hid (RowPt w2 w1.heap.size m g) := hR2
  have HW2 : Hid (Below w.heap.size w w2) := HW1.out.trans (hb2.mono HW1.out.size)
  have HQ2 : Hid (PtsAt w2 (some ⟨w.heap.size, 0, none⟩) n w2.heap.size f) := ((HR1.out.pts HR1.out.lt).on hb2).wide hb2.size
  clear hR2 hb2
  go_wp2_with fail
  refine (sPairs_any _ _ _ _ _ _ hn hm f g _ HQ2.out (HR2.out.pts HR2.out.lt)).mono ?_
  rintro e w3 ⟨rfl, hb3⟩
  have HW3 : Hid (Below w.heap.size w w3) := HW2.out.trans (hb3.mono HW2.out.size)
  clear hb3 HR1 HR2 HQ2
  go_wp2_with fail
  refine (toPointS_any a n c hn1 f _ ((HA.out.on HW3.out).wide HW3.out.size)).mono ?_
  rintro e w4 ⟨rfl, hR4, hb4⟩
  have HR4 : Hid (RowPt w4 w3.heap.size n f) := hR4
  have HW4 : Hid (Below w.heap.size w w4) := HW3.out.trans (hb4.mono HW3.out.size)
  clear hR4 hb4
  go_wp2_with fail
  refine (toPointS_any b m d hm1 g _ ((HB.out.on HW4.out).wide HW4.out.size)).mono ?_
  rintro e w5 ⟨rfl, hR5, hb5⟩
  have HQ4 : Hid (PtsAt w5 (some ⟨w3.heap.size, 0, none⟩) n w5.heap.size f) := ((HR4.out.pts HR4.out.lt).on hb5).wide hb5.size
  have HQ5 : Hid (PtsAt w5 (some ⟨w4.heap.size, 0, none⟩) m w5.heap.size g) := hR5.pts hR5.lt
  have HW5 : Hid (Below w.heap.size w w5) := HW4.out.trans (hb5.mono HW4.out.size)
  clear hR5 hb5 HR4
  go_wp2_with fail
  refine (iPairs_any _ _ _ _ _ _ hn hm f g _ HQ4.out HQ5.out).mono ?_
  rintro e w6 ⟨rfl, hb6⟩
  have HQ6 : Hid (PtsAt w6 (some ⟨w3.heap.size, 0, none⟩) n w6.heap.size f) := (HQ4.out.on hb6).wide hb6.size
  have HT6 : Hid (PtsAt w6 (some ⟨w4.heap.size, 0, none⟩) m w6.heap.size g) := (HQ5.out.on hb6).wide hb6.size
  have HW6 : Hid (Below w.heap.size w w6) := HW5.out.trans (hb6.mono HW5.out.size)
  clear hb6 HQ4 HQ5
  generalize rightL f g n m = r
  have hbb : (r == r) = true := by simp
  go_wp2_with fail
  refine (toPointS_any a n c hn1 f _ ((HA.out.on HW6.out).wide HW6.out.size)).mono ?_
  rintro e w7 ⟨rfl, hR7, hb7⟩
  have HQ7 : Hid (PtsAt w7 (some ⟨w3.heap.size, 0, none⟩) n w7.heap.size f) := (HQ6.out.on hb7).wide hb7.size
  have HT7 : Hid (PtsAt w7 (some ⟨w4.heap.size, 0, none⟩) m w7.heap.size g) := (HT6.out.on hb7).wide hb7.size
  have HS7 : Hid (PtsAt w7 (some ⟨w6.heap.size, 0, none⟩) n w7.heap.size f) := hR7.pts hR7.lt
  have HW7 : Hid (Below w.heap.size w w7) := HW6.out.trans (hb7.mono HW6.out.size)
  clear hR7 hb7 HQ6 HT6
  go_wp2_with fail
  refine (eqPointS_any _ _ _ _ _ hn1 f _ HQ7.out HS7.out).mono ?_
  rintro e w8 ⟨rfl, hb8⟩
  have HT8 : Hid (PtsAt w8 (some ⟨w4.heap.size, 0, none⟩) m w8.heap.size g) := (HT7.out.on hb8).wide hb8.size
  have HW8 : Hid (Below w.heap.size w w8) := HW7.out.trans (hb8.mono HW7.out.size)
  clear hb8 HQ7 HT7 HS7
  go_wp2_with fail
  refine (toPointS_any b m d hm1 g _ ((HB.out.on HW8.out).wide HW8.out.size)).mono ?_
  rintro e w9 ⟨rfl, hR9, hb9⟩
  have HT9 : Hid (PtsAt w9 (some ⟨w4.heap.size, 0, none⟩) m w9.heap.size g) := (HT8.out.on hb9).wide hb9.size
  have HS9 : Hid (PtsAt w9 (some ⟨w8.heap.size, 0, none⟩) m w9.heap.size g) := hR9.pts hR9.lt
  have HW9 : Hid (Below w.heap.size w w9) := HW8.out.trans (hb9.mono HW8.out.size)
  clear hR9 hb9 HT8
  go_wp2_with fail
  refine (eqPointS_any _ _ _ _ _ hm1 g _ HT9.out HS9.out).mono ?_
  rintro e w10 ⟨rfl, hb10⟩
  have HW10 : Hid (Below w.heap.size w w10) := HW9.out.trans (hb10.mono HW9.out.size)
  clear hb10
  go_wp2
  go_ret
  exact ⟨rfl, HW10.out⟩

end Go.Proofs.Ytckhbflolccinaa
