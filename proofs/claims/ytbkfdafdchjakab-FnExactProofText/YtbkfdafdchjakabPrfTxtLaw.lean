/-
  The walk of the exact law of a proof's text.
  (-DROP-: what the seat lacks is left out.)
-/
import Derived.Test.YtbkfdafdchjakabPrfI5
import Derived.Test.YtbkfdafdchjakabPrfArg

namespace Go.Proofs.Ytbkfdafdchjakab
open Go.RowKit

set_option maxHeartbeats 1600000 in
set_option maxRecDepth 100000 in
theorem lawProofText (A B C : Pt) (w : World) :
    Calls Try.prog 5 #[.agg (prfC A B C)] w fun e w' => e = .returned (.bool true) ∧ Below w.heap.size w w' := by
  have HT : Hid (∀ w, Calls Try.prog 11 #[.agg (prfC A B C)] w fun e w' => e = .returned (.agg (prfC A B C)) ∧ Below w.heap.size w w') := toProof_any A B C
  have HS : Hid (∀ w, Calls Try.prog 22 #[.agg (prfC A B C)] w fun e w' => e = .returned (.tuple #[.string (prfText A B C), .bool (prfIn A B C)]) ∧ Below w.heap.size w w') := sProofText_any A B C
  have HI : Hid (∀ w, Calls Try.prog 23 #[.agg (prfC A B C)] w fun e w' => e = .returned (.tuple #[.string (prfText A B C), .bool (prfIn A B C)]) ∧ Below w.heap.size w w') := iProofText_any A B C
  generalize prfText A B C = v at HS HI
  generalize prfIn A B C = b at HS HI
  obtain ⟨W, hW, hb, hx⟩ := box1 w 29 (prfC A B C)
  go_enter Try.func5, Try.ntmps5
  go_wp2_with (refine load_blk rfl rfl rfl hx Try.underlying29 infoPrL ?_)
  clear hW
  refine (HT.out _).mono ?_
  rintro e w1 ⟨rfl, hb1⟩
  go_wp2_with fail
  refine (HS.out _).mono ?_
  rintro e w2 ⟨rfl, hb2⟩
  have hc2 := below_then hb1 hb2
  have hx2 := hx.on hc2 hx.lt
  have hB2 := below_then hb hc2
  clear hb hx hb1 hb2 hc2
  go_wp2_with (refine load_blk rfl rfl rfl hx2 Try.underlying29 infoPrL ?_)
  refine (HT.out _).mono ?_
  rintro e w3 ⟨rfl, hb3⟩
  go_wp2_with fail
  refine (HI.out _).mono ?_
  rintro e w4 ⟨rfl, hb4⟩
  have hbb := below_then (below_then hB2 hb3) hb4
  clear hx2 hb3 hb4 hB2
  go_wp2
  go_ret
  exact ⟨rfl, hbb⟩

end Go.Proofs.Ytbkfdafdchjakab
