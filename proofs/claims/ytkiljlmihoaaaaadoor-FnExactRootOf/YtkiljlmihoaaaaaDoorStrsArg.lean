/-
  What an argument of texts is to the walk.
-/
import Derived.Test.YtkiljlmihoaaaaaDoorStrRow
import Derived.OpenShut
import Derived.Lib.SmallJoins
import Derived.Deep.Slices
import Derived.Deep.Strs
namespace Go.Proofs.YtkiljlmihoaaaaaDoor
open Go.RowKit Go.ChangeShapes Go.WideShapes Go.Joins Go.Deep

theorem strsAt_of {H : Type} {enc : TypeId × Value → H} {W : World} {sp : Nat → Bool} {fuel : Nat} {a : Option Addr} {len cap : Nat} {x : DataW H × List MemPlace} (h : DataW.trod enc Tryd.prog W 0 sp true fuel 24 [.slice a len cap] = some x) :
    ∃ f, StrsAt W a len W.heap.size f ∧ (∀ j, j < len → (f j).size ≤ 9223372036854775807) ∧ len ≤ 9223372036854775807 := by
  rcases open_strs Tryd.underlying24 Tryd.underlying9 (by kernel_rfl) h with ⟨hcs, _⟩ | ⟨x, l, c, m, Sx, hcs, _, hl, hm, hmm, _, hx⟩
  · simp at hcs
    obtain ⟨rfl, rfl, rfl⟩ := hcs
    exact ⟨fun _ => ByteArray.empty, fun j hj => by omega, fun j hj => by omega, by omega⟩
  · simp at hcs
    obtain ⟨rfl, rfl, rfl⟩ := hcs
    have hlm : len ≤ m := by rw [hmm]; split <;> omega
    unfold maxLen at hm hx
    refine ⟨Sx, fun j hj => ?_, fun j hj => (hx j (by omega)).2, by omega⟩
    obtain ⟨b, off, spot⟩ := x
    have c0 := (hx j (by omega)).1
    have hspot : spot = none := by simpa [Addr.add] using World.cell?_spot (hx 0 (by omega)).1
    subst hspot
    rw [Addr.add_lit] at c0
    exact ⟨b, off, rfl, World.block_lt_of_cell? W _ c0, c0⟩

end Go.Proofs.YtkiljlmihoaaaaaDoor
