/-
  Texts of one's own, joined.
-/
import Derived.Test.YtkmelamfohfdkabProg
import Derived.Test.YtkmelamfohfdkabScPure
import Derived.WalkLawsBesides
import Derived.WalkSpells
import Derived.Test.YtkmelamfohfdkabJoined45
import Derived.Test.YtkmelamfohfdkabJoined26

/-
  The walks of the program's scalars.
  (-DROP-: what the seat lacks is left out.)
-/
namespace Go.Proofs.Ytkmelamfohfdkab
open Go.RowKit

set_option maxHeartbeats 400000 in
set_option maxRecDepth 100000 in
theorem iScOf_any (n : Int) (w : World) :
    Calls Try.prog 45 #[.int .i64 n] w fun e w' => e = .returned (.int .i64 (sca n)) ∧ w = w' := by
  have hb := tmod_bounds_sca n
  by_cases h : Int.tmod n 1009 < 0
  · have he := tmod_neg_sca h
    go_enter Try.func45, Try.ntmps45
    go_wp2
    go_ret
    exact ⟨rfl, rfl⟩
  · have he := tmod_nonneg_sca h
    go_enter Try.func45, Try.ntmps45
    go_wp2
    go_ret
    exact ⟨rfl, rfl⟩

end Go.Proofs.Ytkmelamfohfdkab

/-
  The walk of the program's KeyOf.
  (-DROP-: what the seat lacks is left out.)
-/
namespace Go.Proofs.Ytkmelamfohfdkab
open Go.RowKit

set_option maxHeartbeats 800000 in
set_option maxRecDepth 100000 in
theorem iKey_any (k : Int) (w : World) :
    Calls Try.prog 36 #[.int .i64 k] w fun e w' => e = .returned (pv (keyP k)) ∧ Below w.heap.size w w' := by
  have HO : Hid (∀ w, Calls Try.prog 45 #[.int .i64 k] w fun e w' => e = .returned (.int .i64 (sca k)) ∧ w = w') := iScOf_any k
  have HT : Hid (∀ w, Calls Try.prog 44 #[.int .i64 (sca k), pv pB] w fun e w' => e = .returned (pv (keyP k)) ∧ Below w.heap.size w w') := iTimes_any (sca k) pB
  have HB : Hid (∀ w, Calls Try.prog 46 #[] w fun e w' => e = .returned (pv pB) ∧ Below w.heap.size w w') := iBase_any
  generalize keyP k = K at HT ⊢
  generalize sca k = s at HO HT
  generalize pB = B at HT HB
  go_enter Try.func36, Try.ntmps36
  go_wp2_with fail
  obtain ⟨W, hW, hb, hr⟩ := box1 w 49 #[.int .i64 0, .int .i64 0, .bool false]
  rw [hW]
  clear hW
  refine (HO.out _).mono ?_
  rintro e w1 ⟨rfl, rfl⟩
  go_wp2_with fail
  refine (HB.out _).mono ?_
  rintro e w2 ⟨rfl, hb2⟩
  go_wp2_with fail
  refine (HT.out _).mono ?_
  rintro e w3 ⟨rfl, hb3⟩
  have hr3 := (hr.on hb2 hr.lt).on hb3 (by have := hb2.size; have := hr.lt; omega)
  have hB3 := below_then (below_then hb hb2) hb3
  clear hb hb2 hb3 hr
  go_wp2_with (refine store_blk (cs' := pc K) rfl rfl rfl rfl rfl hr3 infoP rfl (ones3 _ _ _) ?_; intro V h5 hoth hbel; have hbV := hbel _ _ (by omega) hB3; clear hoth hbel)
  refine bodyPost_ret_by (result_blk rfl rfl h5 Try.underlying49 infoP) rfl ⟨rfl, hbV⟩

end Go.Proofs.Ytkmelamfohfdkab
