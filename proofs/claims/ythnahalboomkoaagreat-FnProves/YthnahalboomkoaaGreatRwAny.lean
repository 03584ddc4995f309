/-
  The draw of a system, right or not, and of numbers for it.
  (-DROP-: what the seat lacks is left out.)
-/
import Derived.Test.YthnahalboomkoaaGreatJoined28
import Derived.Test.YthnahalboomkoaaGreatJoined12

namespace Go.Proofs.YthnahalboomkoaaGreat
open Go.RowKit

/-- The rest of a list. -/
theorem ZOwn.rest {lo hi : Nat} {w : World} {g n c : Nat} {l : List Int} (h : ZOwn lo hi w (.slice (some ⟨g, 0, none⟩) n c) l) (hn : n = l.length) (h1 : 1 ≤ l.length) (cp : Nat) : ZAt w hi (.slice (some ⟨g, 1, none⟩) (n - 1) cp) l.tail := by
  obtain ⟨a, cq, hv, hI⟩ := h.at
  injection hv with e1 e2 e3
  subst e1
  refine ⟨some ⟨g, 1, none⟩, cp, by rw [hn, List.length_tail], ?_⟩
  rw [List.length_tail]
  intro j hj
  obtain ⟨b, off, e, hb, hc⟩ := hI (j + 1) (by omega)
  injection e with e
  injection e with e4 e5
  subst e4
  subst e5
  refine ⟨g, 1, rfl, hb, ?_⟩
  rw [show 1 + j = 0 + (j + 1) by omega, hc]
  congr 2
  cases l with
  | nil => rfl
  | cons x t => rfl

theorem heap_cell {w w' : World} {p : Addr} {x : Option Value} (h : w.cell? p = x) (e : w'.heap = w.heap) : w'.cell? p = x := (World.cell?_of_block (by rw [e])).trans h
theorem heap_free {w w' : World} {p : Addr} (h : w.frozen? p = false) (e : w'.heap = w.heap) : w'.frozen? p = false := by
  rw [← h]
  unfold World.frozen?
  rw [e]
/-- A small number is one that an int holds. -/
theorem wf_small {z : Int} (h0 : -1000000 ≤ z) (h1 : z ≤ 1000000) : (Lit.int .i64 z).wf = true := by
  have e1 : IntKind.i64.min = -9223372036854775808 := rfl
  have e2 : IntKind.i64.max = 9223372036854775807 := rfl
  simp [Lit.wf]
  omega

end Go.Proofs.YthnahalboomkoaaGreat
