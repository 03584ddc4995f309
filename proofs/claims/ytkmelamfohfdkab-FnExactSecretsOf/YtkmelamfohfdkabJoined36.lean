/-
  Texts of one's own, joined.
-/
import Derived.Test.YtkmelamfohfdkabJoined34
import Derived.Test.YtkmelamfohfdkabJoined35
import Derived.StillTailTactics

/-
  The walks of words put to a state, and of a state as a text.
-/
namespace Go.Proofs.Ytkmelamfohfdkab
open Go.RowKit

theorem mixesW : Try.prog.follows .mixedOrders = true := by kernel_rfl

/-- A text from place n on. -/
def sufT (s : ByteArray) (n : Nat) : ByteArray := s.extract n s.size
theorem cut_suf (s : ByteArray) (n : Nat) (h : n ≤ s.size) (wx : World) :
    (Instr.slice 9 (.string s) (some (.int .i64 (n : Int))) none none).run Try.prog wx = .ok (.string (sufT s n)) wx := by
  have := run_slice_string_l (P := Try.prog) (w := wx) (t := 9) (s := s) Try.underlying9 .i64 (n : Int) (by omega) (by omega)
  simpa [sufT] using this
theorem sufT_size (s : ByteArray) (n : Nat) : (sufT s n).size = s.size - n := by
  simp [sufT]
theorem sufT_list (s : ByteArray) (n : Nat) : (sufT s n).data.toList = s.data.toList.drop n := by
  unfold sufT
  rw [ByteArray.data_extract, Array.toList_extract, List.extract_eq_take_drop, List.take_of_length_le]
  simp

end Go.Proofs.Ytkmelamfohfdkab

/-
  The walk of a state as a text.
-/
namespace Go.Proofs.Ytkmelamfohfdkab
open Go.RowKit

/-- n words of a state as a text. -/
def textT (f : Nat → BitVec 64) (n : Nat) : ByteArray := ⟨(textL f n).toArray⟩

end Go.Proofs.Ytkmelamfohfdkab
