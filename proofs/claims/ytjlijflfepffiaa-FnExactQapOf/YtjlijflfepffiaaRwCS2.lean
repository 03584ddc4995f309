/-
  The walks of the rules of the system of bits, the program's.
  (-DROP-: what the seat lacks is left out.)
-/
import Derived.Test.YtjlijflfepffiaaRwCS
import Derived.Maps.AppendAt
namespace Go.Proofs.Ytjlijflfepffiaa
open Go.RowKit

theorem cells_two (w : World) (cs : Array Value) (l : List Value) (t : TypeId) (h : cs.toList = l) : ∀ j u, l[j]? = some u → (w.alloc (.cells cs t)).cell? ((⟨w.heap.size, 0, none⟩ : Addr).add j) = some u := by
  intro j u hj
  subst h
  rw [Addr.add_lit, Nat.zero_add, cell_of_row _ _ j cs t (0, 0) (heap_alloc_new w _)]
  simpa using hj

end Go.Proofs.Ytjlijflfepffiaa
