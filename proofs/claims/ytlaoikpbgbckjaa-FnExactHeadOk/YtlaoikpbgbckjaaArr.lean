/-
  Arrays of words in blocks.
-/
import Derived.Test.YtlaoikpbgbckjaaProg
import Derived.Test.YtlaoikpbgbckjaaRoundPure
import Derived.WalkKit
import Derived.WalkLawsBesides
import Derived.WalkSpells
import Derived.Deep.WholeRow
import Derived.BigRegion
import Derived.ChangeKeysEq
import Derived.Laws.CopyOwn
import Derived.Deep.QuietTactic
import Derived.BigQuiet
namespace Go.Proofs.Ytlaoikpbgbckjaa
open Go.RowKit

/-- n words as cells. -/
def sc (f : Nat → BitVec 64) (n : Nat) : Array Value := ((List.range n).map fun i => Value.int .u64 (wv (f i))).toArray

theorem sc_size (f : Nat → BitVec 64) (n : Nat) : (sc f n).size = n := by simp [sc]
theorem sc_at (f : Nat → BitVec 64) (n i : Nat) (h : i < n) : (sc f n)[i]? = some (.int .u64 (wv (f i))) := by simp [sc, h]
theorem sc_one (f : Nat → BitVec 64) (n : Nat) : (sc f n).all (·.oneCell') = true := by
  rw [Array.all_eq_true_iff_forall_mem]
  intro x hx
  simp [sc] at hx
  obtain ⟨i, _, rfl⟩ := hx
  rfl
theorem sc_congr {f g : Nat → BitVec 64} {n : Nat} (h : ∀ i, i < n → f i = g i) : sc f n = sc g n := by
  unfold sc
  congr 1
  apply List.map_congr_left
  intro i hi
  rw [h i (by simpa using hi)]
theorem sc_set (f : Nat → BitVec 64) (n i : Nat) (v : BitVec 64) : (sc f n).setIfInBounds i (.int .u64 (wv v)) = sc (upd f i v) n := by
  apply Array.ext_getElem?
  intro j
  rw [Array.getElem?_setIfInBounds]
  by_cases hj : j < n
  · rw [sc_at (upd f i v) _ _ hj, sc_at f _ _ hj]
    by_cases e : i = j
    · subst e; simp [sc_size, hj, upd]
    · have e' : ¬ j = i := fun x => e x.symm
      simp [e, upd, e']
  · have h1 : (sc (upd f i v) n)[j]? = none := Array.getElem?_eq_none (by rw [sc_size]; omega)
    have h2 : (sc f n)[j]? = none := Array.getElem?_eq_none (by rw [sc_size]; omega)
    rw [h1, h2]
    by_cases e : i = j
    · subst e; simp [sc_size, hj]
    · simp [e]

/-- Block g holds these n words. -/
def At (w : World) (g : Nat) (t : TypeId) (n : Nat) (f : Nat → BitVec 64) : Prop := w.heap[g]? = some (.cells (sc f n) t (0, 0))

end Go.Proofs.Ytlaoikpbgbckjaa
