/-
  The walks of the specification's NumText, ReadNum.
  (-DROP-: what the seat lacks is left out.)
-/
import Derived.Test.YtengnjffajimdaaNumPure
import Derived.Test.YtengnjffajimdaaBytes
import Derived.Test.YtengnjffajimdaaBlk
namespace Go.Proofs.Ytengnjffajimdaa
open Go.RowKit

theorem same_bytes {a b : ByteArray} (h : a.toList = b.toList) : a = b := by
  rw [ByteArray.toList_eq, ByteArray.toList_eq] at h
  obtain ⟨⟨l⟩⟩ := a
  obtain ⟨⟨m⟩⟩ := b
  have h' : l = m := h
  rw [h']

/-- A byte as a text. -/
theorem text1 (a : Nat) (ha : a < 256) (W : World) :
    (convert 22 9 (.slice (some ⟨W.heap.size, 0, none⟩) 1 1)).run Try.prog (W.alloc (.cells #[.int .u8 (a : Int)] 5)) = .ok (.string ⟨#[UInt8.ofNat a]⟩) (W.alloc (.cells #[.int .u8 (a : Int)] 5)) := by
  have h := World.ownsRow_lit (base := W.heap.size) (e := 5) (size := 1) W #[.int .u8 (a : Int)] 1 (Nat.le_refl _) (by simp [maxLen]) (by simp)
  have e : (#[Value.int .u8 (a : Int)]).toList = bytesV [UInt8.ofNat a] := by
    simp only [bytesV, List.map_cons, List.map_nil, toNat_of ha]
  rw [e] at h
  exact text_of_row (l := [UInt8.ofNat a]) h

/-- The number of a text, if it is as short as may be and no greater than a thousand million. -/
def rdN (t : ByteArray) : Nat × Bool := if t.size ≤ 4 then (if numT (valL t.data.toList) = t then (if valL t.data.toList ≤ 1000000000 then (valL t.data.toList, true) else (0, false)) else (0, false)) else (0, false)

end Go.Proofs.Ytengnjffajimdaa
