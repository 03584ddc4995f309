/-
  The walk of the law on Hex.
-/
import Derived.Test.YtpienefbgpgdkakHexI
namespace Go.Proofs.Ytpienefbgpgdkak
open Go.RowKit

set_option maxRecDepth 100000 in
theorem sHex_no (s : ByteArray) (hs : 20000 < s.size) (hm : s.size ≤ 1048576) (w : World) :
    Calls Try.prog 16 #[.string s] w fun e w' => e = .returned (.tuple #[.string ⟨#[]⟩, .bool false]) ∧ w = w' := by
  have h1 : (20000 : Int) < (s.size : Int) := by omega
  go_enter Try.func16, Try.ntmps16
  go_wp2
  go_ret2
  exact ⟨rfl, rfl⟩

set_option maxRecDepth 100000 in
theorem iHex_no (s : ByteArray) (hs : 20000 < s.size) (hm : s.size ≤ 1048576) (w : World) :
    Calls Try.prog 17 #[.string s] w fun e w' => e = .returned (.tuple #[.string ⟨#[]⟩, .bool false]) ∧ w = w' := by
  have h1 : (20000 : Int) < (s.size : Int) := by omega
  go_enter Try.func17, Try.ntmps17
  go_wp2
  go_ret2
  exact ⟨rfl, rfl⟩

set_option maxRecDepth 100000 in
theorem lawHex (s : ByteArray) (hs : s.size ≤ maxLen) (w : World) :
    Calls Try.prog 7 #[.string s] w fun e w' => e = .returned (.bool true) ∧ Below w.heap.size w w' := by
  unfold maxLen at hs
  by_cases hb : s.size ≤ 1048576
  · have hb' : ¬ (1048576 : Int) < (s.size : Int) := by omega
    by_cases h2 : s.size ≤ 20000
    · go_enter Try.func7, Try.ntmps7
      go_wp2_with (first | (go_at_call 16; refine (sHex_ok s h2 _).mono ?_; rintro e w1 ⟨rfl, hb1⟩) | (go_at_call 17; refine (iHex_ok s h2 _).mono ?_; rintro e w2 ⟨rfl, hb2⟩))
      go_ret
      exact ⟨rfl, hb1.trans (hb2.mono hb1.size)⟩
    · go_enter Try.func7, Try.ntmps7
      go_wp2_with (first | (go_at_call 16; refine (sHex_no s (by omega) hb _).mono ?_; rintro e w1 ⟨rfl, rfl⟩) | (go_at_call 17; refine (iHex_no s (by omega) hb _).mono ?_; rintro e w2 ⟨rfl, rfl⟩))
      go_ret
      exact ⟨rfl, Below.refl _ _⟩
  · have hb' : (1048576 : Int) < (s.size : Int) := by omega
    go_enter Try.func7, Try.ntmps7
    go_wp2
    go_ret
    exact ⟨rfl, Below.refl _ _⟩

end Go.Proofs.Ytpienefbgpgdkak
