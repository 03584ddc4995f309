/-
  The walks of the laws on the functions of points.
  (-DROP-: what the seat lacks is left out.)
-/
import Derived.Test.YtdeahlljllelaabPtT2
import Derived.Test.YtdeahlljllelaabPtI
import Derived.OpenShut
namespace Go.Proofs.Ytdeahlljllelaab
open Go.RowKit Go.ChangeShapes Go.WideShapes

theorem infoLP : (Try.prog.info? 27).map (·.size) = some 3 := by kernel_rfl

set_option maxHeartbeats 800000 in
set_option maxRecDepth 100000 in
theorem toPoint_any (P : Pt) (w : World) :
    Calls Try.prog 12 #[pv P] w fun e w' => e = .returned (pv P) ∧ Below w.heap.size w w' := by
  go_enter Try.func12, Try.ntmps12
  go_wp2
  obtain ⟨W, hW, hb, hx, hr, hv⟩ := boxes2r w 27 23 23 #[.int .i64 P.1, .int .i64 P.2.1, .bool P.2.2] #[.int .i64 P.1, .int .i64 P.2.1, .bool P.2.2] #[.int .i64 P.1, .int .i64 P.2.1, .bool P.2.2]
  rw [hW]
  refine bodyPost_ret_by (result_blk rfl rfl hr Try.underlying23 infoP) rfl ⟨rfl, hb⟩

set_option maxHeartbeats 800000 in
set_option maxRecDepth 100000 in
theorem eqPoint_same (P : Pt) (w : World) :
    Calls Try.prog 10 #[pv P, pv P] w fun e w' => e = .returned (.bool true) ∧ Below w.heap.size w w' := by
  go_enter Try.func10, Try.ntmps10
  go_wp2
  go_ret
  exact ⟨rfl, ((Below.refl _ _).alloc (Nat.le_refl _) _).alloc (by simp) _⟩

set_option maxHeartbeats 800000 in
set_option maxRecDepth 100000 in
theorem lawInGroup (P : Pt) (w : World) :
    Calls Try.prog 4 #[pv P] w fun e w' => e = .returned (.bool true) ∧ Below w.heap.size w w' := by
  have HS : Hid (∀ w, Calls Try.prog 11 #[pv P] w fun e w' => e = .returned (.bool (inGB P)) ∧ Below w.heap.size w w') := sInG_any P
  have HI : Hid (∀ w, Calls Try.prog 13 #[pv P] w fun e w' => e = .returned (.bool (inGB P)) ∧ Below w.heap.size w w') := iInG_any P
  generalize inGB P = v at HS HI
  go_enter Try.func4, Try.ntmps4
  go_wp2_with fail
  obtain ⟨W, hW, hb, hx⟩ := box1 w 27 #[.int .i64 P.1, .int .i64 P.2.1, .bool P.2.2]
  rw [hW]
  clear hW
  refine (toPoint_any P _).mono ?_
  rintro e w1 ⟨rfl, hb1⟩
  go_wp2_with fail
  refine (HS.out _).mono ?_
  rintro e w2 ⟨rfl, hb2⟩
  have hc2 := below_then hb1 hb2
  have hx2 := hx.on hc2 hx.lt
  go_wp2_with (refine load_blk rfl rfl rfl hx2 Try.underlying27 infoLP ?_)
  refine (toPoint_any P _).mono ?_
  rintro e w3 ⟨rfl, hb3⟩
  go_wp2_with fail
  refine (HI.out _).mono ?_
  rintro e w4 ⟨rfl, hb4⟩
  have hbb := below_then (below_then (below_then hb hc2) hb3) hb4
  clear hb hx hb1 hb2 hc2 hx2 hb3 hb4
  cases v
  · go_wp2
    go_ret
    exact ⟨rfl, hbb⟩
  · go_wp2
    go_ret
    exact ⟨rfl, hbb⟩

set_option maxHeartbeats 800000 in
set_option maxRecDepth 100000 in
theorem lawPointText (P : Pt) (w : World) :
    Calls Try.prog 5 #[pv P] w fun e w' => e = .returned (.bool true) ∧ Below w.heap.size w w' := by
  have HS : Hid (∀ w, Calls Try.prog 14 #[pv P] w fun e w' => e = .returned (.string (ptText P)) ∧ Below w.heap.size w w') := sPText_any P
  have HI : Hid (∀ w, Calls Try.prog 15 #[pv P] w fun e w' => e = .returned (.string (ptText P)) ∧ Below w.heap.size w w') := iPText_any P
  generalize ptText P = v at HS HI
  go_enter Try.func5, Try.ntmps5
  go_wp2_with fail
  obtain ⟨W, hW, hb, hx⟩ := box1 w 27 #[.int .i64 P.1, .int .i64 P.2.1, .bool P.2.2]
  rw [hW]
  clear hW
  refine (toPoint_any P _).mono ?_
  rintro e w1 ⟨rfl, hb1⟩
  go_wp2_with fail
  refine (HS.out _).mono ?_
  rintro e w2 ⟨rfl, hb2⟩
  have hc2 := below_then hb1 hb2
  have hx2 := hx.on hc2 hx.lt
  go_wp2_with (refine load_blk rfl rfl rfl hx2 Try.underlying27 infoLP ?_)
  refine (toPoint_any P _).mono ?_
  rintro e w3 ⟨rfl, hb3⟩
  go_wp2_with fail
  refine (HI.out _).mono ?_
  rintro e w4 ⟨rfl, hb4⟩
  have hbb := below_then (below_then (below_then hb hc2) hb3) hb4
  clear hb hx hb1 hb2 hc2 hx2 hb3 hb4
  go_wp2
  go_ret
  exact ⟨rfl, hbb⟩

set_option maxHeartbeats 800000 in
set_option maxRecDepth 100000 in
theorem lawBase (w : World) :
    Calls Try.prog 3 #[] w fun e w' => e = .returned (.bool true) ∧ Below w.heap.size w w' := by
  have HS : Hid (∀ w, Calls Try.prog 8 #[] w fun e w' => e = .returned (pv pB) ∧ Below w.heap.size w w') := sBase_any
  have HI : Hid (∀ w, Calls Try.prog 9 #[] w fun e w' => e = .returned (pv pB) ∧ Below w.heap.size w w') := iBase_any
  generalize pB = v at HS HI
  go_enter Try.func3, Try.ntmps3
  go_wp2_with fail
  refine (HS.out _).mono ?_
  rintro e w2 ⟨rfl, hB2⟩
  go_wp2_with fail
  obtain ⟨V, hV, hbV, h3⟩ := box1 w2 23 #[.int .i64 v.1, .int .i64 v.2.1, .bool v.2.2]
  rw [hV]
  clear hV
  refine (HI.out _).mono ?_
  rintro e w4 ⟨rfl, hb4⟩
  have h34 := h3.on hb4 h3.lt
  have hB4 := below_then (below_then hB2 hbV) hb4
  clear hb4 h3 hbV hB2
  have hB5 := below_then hB4 ((Below.refl _ w4).alloc (Nat.le_refl _) (.cells #[.int .i64 v.1, .int .i64 v.2.1, .bool v.2.2] 23))
  have h45 := Blk.new w4 23 #[.int .i64 v.1, .int .i64 v.2.1, .bool v.2.2]
  have h35 := h34.alloc (.cells #[.int .i64 v.1, .int .i64 v.2.1, .bool v.2.2] 23)
  clear h34 hB4
  go_wp2_with (first | (refine load_blk rfl rfl rfl h45 Try.underlying23 infoP ?_) | (refine load_blk rfl rfl rfl h35 Try.underlying23 infoP ?_))
  refine (eqPoint_same v _).mono ?_
  rintro e w5 ⟨rfl, hb5⟩
  have hbb := below_then hB5 hb5
  clear h45 h35 hB5 hb5
  go_wp2
  go_ret
  exact ⟨rfl, hbb⟩

set_option maxHeartbeats 800000 in
set_option maxRecDepth 100000 in
theorem lawReadPoint (t : ByteArray) (ht : t.size ≤ maxLen) (w : World) :
    Calls Try.prog 6 #[.string t] w fun e w' => e = .returned (.bool true) ∧ Below w.heap.size w w' := by
  unfold maxLen at ht
  by_cases hb : 1048576 < t.size
  · have hb' : (1048576 : Int) < (t.size : Int) := by omega
    go_enter Try.func6, Try.ntmps6
    go_wp2
    go_ret
    exact ⟨rfl, Below.refl _ _⟩
  have hb' : ¬ (1048576 : Int) < (t.size : Int) := by omega
  have HS : Hid (∀ w, Calls Try.prog 16 #[.string t] w fun e w' => e = .returned (rv (rdPt t)) ∧ Below w.heap.size w w') := sRead_any t (by omega)
  have HI : Hid (∀ w, Calls Try.prog 17 #[.string t] w fun e w' => e = .returned (rv (rdPt t)) ∧ Below w.heap.size w w') := iRead_any t (by omega)
  generalize rdPt t = r at HS HI
  obtain ⟨v, ok⟩ := r
  unfold rv at HS HI
  simp only at HS HI
  go_enter Try.func6, Try.ntmps6
  go_wp2_with fail
  refine (HS.out _).mono ?_
  rintro e w2 ⟨rfl, hB2⟩
  go_wp2_with fail
  obtain ⟨V, hV, hbV, h3⟩ := box1 w2 23 #[.int .i64 v.1, .int .i64 v.2.1, .bool v.2.2]
  rw [hV]
  clear hV
  refine (HI.out _).mono ?_
  rintro e w4 ⟨rfl, hb4⟩
  have h34 := h3.on hb4 h3.lt
  have hB4 := below_then (below_then hB2 hbV) hb4
  clear hb4 h3 hbV hB2
  have hB5 := below_then hB4 ((Below.refl _ w4).alloc (Nat.le_refl _) (.cells #[.int .i64 v.1, .int .i64 v.2.1, .bool v.2.2] 23))
  have h45 := Blk.new w4 23 #[.int .i64 v.1, .int .i64 v.2.1, .bool v.2.2]
  have h35 := h34.alloc (.cells #[.int .i64 v.1, .int .i64 v.2.1, .bool v.2.2] 23)
  clear h34 hB4
  go_wp2_with (first | (refine load_blk rfl rfl rfl h45 Try.underlying23 infoP ?_) | (refine load_blk rfl rfl rfl h35 Try.underlying23 infoP ?_))
  refine (eqPoint_same v _).mono ?_
  rintro e w5 ⟨rfl, hb5⟩
  have hbb := below_then hB5 hb5
  clear h45 h35 hB5 hb5
  go_wp2
  go_ret
  exact ⟨rfl, hbb⟩

end Go.Proofs.Ytdeahlljllelaab
