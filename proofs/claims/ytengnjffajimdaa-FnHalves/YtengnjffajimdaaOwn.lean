/-
  Rows that are owned, carried from world to world.
-/
import Derived.Test.YtengnjffajimdaaBlk
import Derived.Laws.AppendOwn
namespace Go.Proofs.Ytengnjffajimdaa
open Go.RowKit

theorem owns_on {w w' : World} {B e sz n : Nat} {v : Value} {xs : List Value} (h : w.ownsRow B e sz v n xs) (hb : Below w.heap.size w w') : w'.ownsRow B e sz v n xs := by
  refine ⟨h.1, ?_⟩
  rcases h.2 with h0 | ⟨g, cap, cur, hv, hB, hg, rest⟩
  · exact .inl h0
  · exact .inr ⟨g, cap, cur, hv, hB, (hb.block g (Array.getElem?_eq_some_iff.1 hg).1).trans hg, rest⟩

theorem owns_other {w w' : World} {B e sz n g : Nat} {v : Value} {xs : List Value} (h : w.ownsRow B e sz v n xs) (hoth : ∀ g' t cs, g ≠ g' → Blk w g' t cs → Blk w' g' t cs) (hg : g < B) : w'.ownsRow B e sz v n xs := by
  refine ⟨h.1, ?_⟩
  rcases h.2 with h0 | ⟨g1, cap, cur, hv, hB, hb, rest⟩
  · exact .inl h0
  · exact .inr ⟨g1, cap, cur, hv, hB, hoth g1 e cur (by omega) hb, rest⟩

theorem owns_apart {w w' : World} {B e sz n g : Nat} {v : Value} {xs : List Value} (h : w.ownsRow B e sz v n xs) (hoth : ∀ g' t cs, g ≠ g' → Blk w g' t cs → Blk w' g' t cs) (hg : v.ownBlock ≠ some g) : w'.ownsRow B e sz v n xs := by
  refine ⟨h.1, ?_⟩
  rcases h.2 with h0 | ⟨g1, cap, cur, hv, hB, hb, rest⟩
  · exact .inl h0
  · refine .inr ⟨g1, cap, cur, hv, hB, hoth g1 e cur (fun e => hg ?_) hb, rest⟩
    rw [hv, e]
    rfl

end Go.Proofs.Ytengnjffajimdaa
