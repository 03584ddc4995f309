/-
  The draws of the field's numbers.
-/
import Derived.Test.YtdeahlljllelaaaPlaces
namespace Go.Proofs.Ytdeahlljllelaaa
open Go.RowKit

/-- What an int holds. -/
def Inside (z : Int) : Prop := -9223372036854775808 ≤ z ∧ z ≤ 9223372036854775807

set_option maxHeartbeats 800000 in
set_option maxRecDepth 100000 in
theorem num_any (c len cap : Nat) (a : Option Addr) (hm : len ≤ 1048576) (w : World) (hC : CurAt w c a len cap) (hA : ArgAt w a len c) :
    Calls Try.prog 71 #[.pointer (some ⟨c, 0, none⟩)] w fun e w' => ∃ x : Int, e = .returned (.int .i64 x) ∧ Inside x ∧ CurEnd w w' c a len cap := by
  have HA : Hid (ArgAt w a len c) := hA
  have HC : Hid (CurAt w c a len cap) := hC
  clear hA hC
  go_enter Try.func71, Try.ntmps71
  go_wp2_with fail
  refine (below_any c len cap a hm 256 (by omega) (by omega) _ HC.out HA.out).mono ?_
  rintro e w1 ⟨x, rfl, x0, x1, hE⟩
  have HE : Hid (CurEnd w w1 c a len cap) := hE
  clear hE
  go_wp2_with fail
  refine (below_any c len cap a hm 256 (by omega) (by omega) _ HE.out.cur HE.out.arg).mono ?_
  rintro e w2 ⟨y, rfl, y0, y1, hE⟩
  have HE2 : Hid (CurEnd w w2 c a len cap) := HE.out.trans hE
  clear hE HE HA HC
  go_wp2_with fail
  have HW := HE2.out.alloc (.cells #[.int .i64 0, .int .i64 1, .int .i64 2, .int .i64 3, .int .i64 12106, .int .i64 12107, .int .i64 12108, .int .i64 (-1), .int .i64 (5000 + x), .int .i64 (y * 47), .int .i64 (-9223372036854775808), .int .i64 9223372036854775807] 3)
  have hcl := HE2.out.cur.lt
  refine (pick_any c len cap a hm w2.heap.size 12 12 (by omega) (by omega) _ HW.cur HW.arg (by omega) Inside (ints_new w2 [0, 1, 2, 3, 12106, 12107, 12108, -1, 5000 + x, y * 47, -9223372036854775808, 9223372036854775807] _ rfl Inside (by unfold Inside; intro z hz; simp at hz; omega))).mono ?_
  rintro e w3 ⟨z, rfl, hz, hE⟩
  have HE3 : Hid (CurEnd w w3 c a len cap) := HW.trans hE
  have HZ : Hid (Inside z) := hz
  clear hE HW hz
  go_wp2
  go_ret
  exact ⟨_, rfl, HZ.out, HE3.out⟩

end Go.Proofs.Ytdeahlljllelaaa
