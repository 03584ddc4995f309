/-
  The walk of the law on ReadDecimal.
-/
import Derived.Test.YtpienefbgpgdkalDoorRdI
import Derived.Test.YtpienefbgpgdkalDoorDecTab
namespace Go.Proofs.YtpienefbgpgdkalDoor
open Go.RowKit Go.Lib

theorem retD_form (o : Option Nat) : ∃ (x : Int) (b : Bool), retD o = .tuple #[.int .i64 x, .bool b] := by
  cases o with
  | none => exact ⟨_, _, rfl⟩
  | some l => exact ⟨_, _, rfl⟩

set_option maxRecDepth 100000 in
theorem lawReadDecimal (s : ByteArray) (hs : s.size ≤ maxLen) (w : World) (htab : Lib.TabIs Tryd.prog w "internal/strconv.uint64pow10" .u64 Lib.pow10Tab) :
    Calls Tryd.prog 4 #[.string s] w fun e w' => e = .returned (.bool true) ∧ Below w.heap.size w w' := by
  unfold maxLen at hs
  have HT : Hid (Lib.TabBelow Tryd.prog w.heap.size w "internal/strconv.uint64pow10" .u64 Lib.pow10Tab) := Lib.tabBelow_of_tabIs htab
  clear htab
  by_cases hb : s.size ≤ 1048576
  · have hb' : ¬ (1048576 : Int) < (s.size : Int) := by omega
    have hS := sRead_any s hb w
    have hI := fun w1 (hb1 : Below w.heap.size w w1) => iRead_any s hb w1 (HT.out w1 hb1)
    obtain ⟨x, b, hf⟩ := retD_form (rdDec s.data.toList)
    rw [hf] at hS hI
    clear hf
    have HS : Hid (Calls Tryd.prog 8 #[.string s] w fun e w' => e = .returned (.tuple #[.int .i64 x, .bool b]) ∧ Below w.heap.size w w') := hS
    have HI : Hid (∀ w1 : World, Below w.heap.size w w1 → Calls Tryd.prog 9 #[.string s] w1 fun e w' => e = .returned (.tuple #[.int .i64 x, .bool b]) ∧ Below w1.heap.size w1 w') := hI
    clear hS hI
    go_enter Tryd.func4, Tryd.ntmps4
    go_wp2_with fail
    refine HS.out.mono ?_
    rintro e w1 ⟨rfl, hb1⟩
    go_wp2_with fail
    refine (HI.out w1 hb1).mono ?_
    rintro e w2 ⟨rfl, hb2⟩
    go_wp2
    go_ret
    exact ⟨rfl, hb1.trans (hb2.mono hb1.size)⟩
  · have hb' : (1048576 : Int) < (s.size : Int) := by omega
    go_enter Tryd.func4, Tryd.ntmps4
    go_wp2
    go_ret
    exact ⟨rfl, Below.refl _ _⟩

end Go.Proofs.YtpienefbgpgdkalDoor
