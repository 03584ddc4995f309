/-
  The walks of the laws on NumText and ReadNum.
  (-DROP-: what the seat lacks is left out.)
-/
import Derived.Test.YtmpjnabadplbjabNumS
import Derived.Test.YtmpjnabadplbjabNumI
namespace Go.Proofs.Ytmpjnabadplbjab
open Go.RowKit

set_option maxHeartbeats 800000 in
set_option maxRecDepth 100000 in
theorem lawNumText (n : Int) (hn : (Lit.int .i64 n).wf = true) (w : World) :
    Calls Try.prog 3 #[.int .i64 n] w fun e w' => e = .returned (.bool true) ∧ Below w.heap.size w w' := by
  have h63 : n ≤ 9223372036854775807 := by simp [Lit.wf] at hn; omega
  have HS : Hid (∀ w : World, Calls Try.prog 5 #[.int .i64 n] w fun e w' => e = .returned (.string (numT n.toNat)) ∧ Below w.heap.size w w') := fun w => sNumText_any n h63 w
  have HI : Hid (∀ w : World, Calls Try.prog 6 #[.int .i64 n] w fun e w' => e = .returned (.string (numT n.toNat)) ∧ Below w.heap.size w w') := fun w => iNumText_any n h63 w
  generalize numT n.toNat = R at HS HI
  clear hn h63
  go_enter Try.func3, Try.ntmps3
  go_wp2_with (first | (go_at_call 5; refine (HS.out _).mono ?_; rintro e w1 ⟨rfl, hb1⟩) | (go_at_call 6; refine (HI.out _).mono ?_; rintro e w2 ⟨rfl, hb2⟩))
  go_ret
  exact ⟨rfl, hb1.trans (hb2.mono hb1.size)⟩

set_option maxHeartbeats 800000 in
set_option maxRecDepth 100000 in
theorem lawReadNum (t : ByteArray) (ht : t.size ≤ maxLen) (w : World) :
    Calls Try.prog 4 #[.string t] w fun e w' => e = .returned (.bool true) ∧ Below w.heap.size w w' := by
  unfold maxLen at ht
  by_cases hb : t.size ≤ 1048576
  · have hb' : ¬ (1048576 : Int) < (t.size : Int) := by omega
    have HS : Hid (∀ w : World, Calls Try.prog 7 #[.string t] w fun e w' => e = .returned (.tuple #[.int .i64 ((rdN t).1 : Int), .bool (rdN t).2]) ∧ Below w.heap.size w w') := fun w => sReadNum_any t (by omega) w
    have HI : Hid (∀ w : World, Calls Try.prog 8 #[.string t] w fun e w' => e = .returned (.tuple #[.int .i64 ((rdN t).1 : Int), .bool (rdN t).2]) ∧ Below w.heap.size w w') := fun w => iReadNum_any t (by omega) w
    generalize (rdN t).1 = x at HS HI
    generalize (rdN t).2 = y at HS HI
    go_enter Try.func4, Try.ntmps4
    go_wp2_with (first | (go_at_call 7; refine (HS.out _).mono ?_; rintro e w1 ⟨rfl, hb1⟩) | (go_at_call 8; refine (HI.out _).mono ?_; rintro e w2 ⟨rfl, hb2⟩))
    go_ret
    exact ⟨rfl, hb1.trans (hb2.mono hb1.size)⟩
  · have hb' : (1048576 : Int) < (t.size : Int) := by omega
    go_enter Try.func4, Try.ntmps4
    go_wp2
    go_ret
    exact ⟨rfl, Below.refl _ _⟩

end Go.Proofs.Ytmpjnabadplbjab
