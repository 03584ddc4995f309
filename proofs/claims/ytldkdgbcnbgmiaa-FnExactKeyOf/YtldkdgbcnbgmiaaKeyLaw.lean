/-
  KeyOf alone: the walks of the program's and the specification's, and of its exact law (for a seat that has no other function of chapter 9).
-/
import Derived.Test.YtldkdgbcnbgmiaaScI
import Derived.Test.YtldkdgbcnbgmiaaScS
import Derived.Test.YtldkdgbcnbgmiaaPtLaws
namespace Go.Proofs.Ytldkdgbcnbgmiaa
open Go.RowKit Go.ChangeShapes Go.WideShapes

def keyQ (k : Int) : Pt := pTimes (sca k) pB

set_option maxHeartbeats 800000 in
set_option maxRecDepth 100000 in
theorem sKey_any (k : Int) (w : World) :
    Calls Try.prog 4 #[.int .i64 k] w fun e w' => e = .returned (pv (keyQ k)) ∧ Below w.heap.size w w' := by
  have HO : Hid (∀ w, Calls Try.prog 8 #[.int .i64 k] w fun e w' => e = .returned (.int .i64 (sca k)) ∧ w = w') := sScOf_any k
  have HT : Hid (∀ w, Calls Try.prog 7 #[.int .i64 (sca k), pv pB] w fun e w' => e = .returned (pv (keyQ k)) ∧ Below w.heap.size w w') := sTimes_any (sca k) pB
  have HB : Hid (∀ w, Calls Try.prog 9 #[] w fun e w' => e = .returned (pv pB) ∧ Below w.heap.size w w') := sBase_any
  generalize keyQ k = K at HT ⊢
  generalize sca k = s at HO HT
  generalize pB = B at HT HB
  go_enter Try.func4, Try.ntmps4
  go_wp2_with fail
  obtain ⟨W, hW, hb, hr⟩ := box1 w 23 #[.int .i64 0, .int .i64 0, .bool false]
  rw [hW]
  clear hW
  refine (HO.out _).mono ?_
  rintro e w1 ⟨rfl, rfl⟩
  go_wp2_with fail
  refine (HB.out _).mono ?_
  rintro e w2 ⟨rfl, hb2⟩
  go_wp2_with fail
  refine (HT.out _).mono ?_
  rintro e w3 ⟨rfl, hb3⟩
  have hr3 := (hr.on hb2 hr.lt).on hb3 (by have := hb2.size; have := hr.lt; omega)
  have hB3 := below_then (below_then hb hb2) hb3
  clear hb hb2 hb3 hr
  go_wp2_with (refine store_blk (cs' := pc K) rfl rfl rfl rfl rfl hr3 infoP rfl (ones3 _ _ _) ?_; intro V h5 hoth hbel; have hbV := hbel _ _ (by omega) hB3; clear hoth hbel)
  refine bodyPost_ret_by (result_blk rfl rfl h5 Try.underlying23 infoP) rfl ⟨rfl, hbV⟩

set_option maxHeartbeats 800000 in
set_option maxRecDepth 100000 in
theorem iKey_any (k : Int) (w : World) :
    Calls Try.prog 5 #[.int .i64 k] w fun e w' => e = .returned (pv (keyQ k)) ∧ Below w.heap.size w w' := by
  have HO : Hid (∀ w, Calls Try.prog 11 #[.int .i64 k] w fun e w' => e = .returned (.int .i64 (sca k)) ∧ w = w') := iScOf_any k
  have HT : Hid (∀ w, Calls Try.prog 10 #[.int .i64 (sca k), pv pB] w fun e w' => e = .returned (pv (keyQ k)) ∧ Below w.heap.size w w') := iTimes_any (sca k) pB
  have HB : Hid (∀ w, Calls Try.prog 12 #[] w fun e w' => e = .returned (pv pB) ∧ Below w.heap.size w w') := iBase_any
  generalize keyQ k = K at HT ⊢
  generalize sca k = s at HO HT
  generalize pB = B at HT HB
  go_enter Try.func5, Try.ntmps5
  go_wp2_with fail
  obtain ⟨W, hW, hb, hr⟩ := box1 w 23 #[.int .i64 0, .int .i64 0, .bool false]
  rw [hW]
  clear hW
  refine (HO.out _).mono ?_
  rintro e w1 ⟨rfl, rfl⟩
  go_wp2_with fail
  refine (HB.out _).mono ?_
  rintro e w2 ⟨rfl, hb2⟩
  go_wp2_with fail
  refine (HT.out _).mono ?_
  rintro e w3 ⟨rfl, hb3⟩
  have hr3 := (hr.on hb2 hr.lt).on hb3 (by have := hb2.size; have := hr.lt; omega)
  have hB3 := below_then (below_then hb hb2) hb3
  clear hb hb2 hb3 hr
  go_wp2_with (refine store_blk (cs' := pc K) rfl rfl rfl rfl rfl hr3 infoP rfl (ones3 _ _ _) ?_; intro V h5 hoth hbel; have hbV := hbel _ _ (by omega) hB3; clear hoth hbel)
  refine bodyPost_ret_by (result_blk rfl rfl h5 Try.underlying23 infoP) rfl ⟨rfl, hbV⟩

set_option maxHeartbeats 800000 in
set_option maxRecDepth 100000 in
theorem lawKeyOf (k : Int) (_hk : (Lit.int .i64 k).wf = true) (w : World) :
    Calls Try.prog 3 #[.int .i64 k] w fun e w' => e = .returned (.bool true) ∧ Below w.heap.size w w' := by
  have HS : Hid (∀ w, Calls Try.prog 4 #[.int .i64 k] w fun e w' => e = .returned (pv (keyQ k)) ∧ Below w.heap.size w w') := sKey_any k
  have HI : Hid (∀ w, Calls Try.prog 5 #[.int .i64 k] w fun e w' => e = .returned (pv (keyQ k)) ∧ Below w.heap.size w w') := iKey_any k
  generalize keyQ k = v at HS HI
  go_enter Try.func3, Try.ntmps3
  go_wp2_with fail
  refine (HS.out _).mono ?_
  rintro e w2 ⟨rfl, hB2⟩
  go_wp2_with fail
  obtain ⟨V, hV, hbV, h3⟩ := box1 w2 23 #[.int .i64 v.1, .int .i64 v.2.1, .bool v.2.2]
  rw [hV]
  clear hV
  refine (HI.out _).mono ?_
  rintro e w4 ⟨rfl, hb4⟩
  have h34 := h3.on hb4 h3.lt
  have hB4 := below_then (below_then hB2 hbV) hb4
  clear hb4 h3 hbV hB2
  have hB5 := below_then hB4 ((Below.refl _ w4).alloc (Nat.le_refl _) (.cells #[.int .i64 v.1, .int .i64 v.2.1, .bool v.2.2] 23))
  have h45 := Blk.new w4 23 #[.int .i64 v.1, .int .i64 v.2.1, .bool v.2.2]
  have h35 := h34.alloc (.cells #[.int .i64 v.1, .int .i64 v.2.1, .bool v.2.2] 23)
  clear h34 hB4
  go_wp2_with (first | (refine load_blk rfl rfl rfl h45 Try.underlying23 infoP ?_) | (refine load_blk rfl rfl rfl h35 Try.underlying23 infoP ?_))
  refine (eqPoint_same v _).mono ?_
  rintro e w5 ⟨rfl, hb5⟩
  have hbb := below_then hB5 hb5
  clear h45 h35 hB5 hb5
  go_wp2
  go_ret
  exact ⟨rfl, hbb⟩

end Go.Proofs.Ytldkdgbcnbgmiaa
