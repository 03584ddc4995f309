/-
  The walk of the specification's l17Deep.
  (-DROP-: what the seat lacks is left out.)
-/
import Derived.Test.YtengnjffajimdaaItemPure
namespace Go.Proofs.Ytengnjffajimdaa
open Go.RowKit

theorem no_bytes {t : ByteArray} (h : t.toList = []) : t = ⟨#[]⟩ := by
  rw [ByteArray.toList_eq] at h
  obtain ⟨d⟩ := t
  obtain ⟨l⟩ := d
  have e' : l = [] := h
  subst e'
  rfl

theorem all_range {α : Type} (p : α → Bool) : ∀ l : List α, ((List.range l.length).all fun j => (l[j]?.map p).getD true) = l.all p
  | [] => rfl
  | x :: t => by
    rw [List.length_cons, List.range_succ_eq_map, List.all_cons, List.all_map, List.all_cons, ← all_range p t]
    rfl

end Go.Proofs.Ytengnjffajimdaa
