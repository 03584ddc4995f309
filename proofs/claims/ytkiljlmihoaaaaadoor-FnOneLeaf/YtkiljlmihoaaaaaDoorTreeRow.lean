/-
  The tree's contracts over lists that are told by a row.
  (-DROP-: what the seat lacks is left out.)
-/
import Derived.Test.YtkiljlmihoaaaaaDoorTreeS5
import Derived.Test.YtkiljlmihoaaaaaDoorTreeI
namespace Go.Proofs.YtkiljlmihoaaaaaDoor
open Go.RowKit

theorem RowS.at {B : Nat} {w : World} {a : Option Addr} {n c : Nat} {l : List ByteArray} (h : RowS B w (.slice a n c) l) : StrsAt w a l.length w.heap.size (fun j => l.getD j noT) := by
  obtain ⟨a', c', e, hs⟩ := h.strs
  cases e
  exact hs

theorem iRoot_row {B : Nat} {w : World} {v : Value} {l : List ByteArray} (h : RowS B w v l) (hm : l.length ≤ 1048576) (hs : ∀ j, j < l.length → (l.getD j noT).size ≤ 1048576) (hT : Tab w) :
    Calls Tryd.prog 10 #[v] w fun e w' => e = .returned (.string (rootT digT l)) ∧ Below w.heap.size w w' := by
  obtain ⟨a, c, rfl, s⟩ := h.strs
  have h := iRootOf_any a l.length c (by omega) _ hs w s hT
  rw [lst_getD] at h
  exact h

theorem sRoot_row {B : Nat} {w : World} {v : Value} {l : List ByteArray} (h : RowS B w v l) (hm : l.length ≤ 1048576) (hs : ∀ j, j < l.length → (l.getD j noT).size ≤ 1048576) :
    Calls Tryd.prog 19 #[v] w fun e w' => e = .returned (.string (rootT digT l)) ∧ Below w.heap.size w w' := by
  obtain ⟨a, c, rfl, s⟩ := h.strs
  have h := sRootOf_any a l.length c (by omega) _ hs w s
  rw [lst_getD] at h
  exact h

theorem iBranch_row {B : Nat} {w : World} {v : Value} {l : List ByteArray} (i : Int) (h : RowS B w v l) (hm : l.length ≤ 1048576) (hs : ∀ j, j < l.length → (l.getD j noT).size ≤ 1048576) (hT : Tab w) :
    Calls Tryd.prog 11 #[v, .int .i64 i] w fun e w' => ∃ u, e = .returned u ∧ RowS w.heap.size w' u (branchT digT l i) ∧ Below w.heap.size w w' := by
  obtain ⟨a, c, rfl, s⟩ := h.strs
  have h := iBranch_any a l.length c (by omega) i _ hs w s hT
  rw [lst_getD] at h
  exact h

theorem sBranch_row {B : Nat} {w : World} {v : Value} {l : List ByteArray} (i : Int) (h : RowS B w v l) (hm : l.length ≤ 1048576) (hs : ∀ j, j < l.length → (l.getD j noT).size ≤ 1048576) :
    Calls Tryd.prog 21 #[v, .int .i64 i] w fun e w' => ∃ u, e = .returned u ∧ RowS w.heap.size w' u (branchT digT l i) ∧ Below w.heap.size w w' := by
  obtain ⟨a, c, rfl, s⟩ := h.strs
  have h := sBranch_any a l.length c (by omega) i _ hs w s
  rw [lst_getD] at h
  exact h

theorem iFold_row {B : Nat} {w : World} {v : Value} {l : List ByteArray} (t : ByteArray) (ht : t.size ≤ 1048576) (i : Int) (h : RowS B w v l) (hm : l.length ≤ 1048576) (hs : ∀ j, j < l.length → (l.getD j noT).size ≤ 1048576) (hT : Tab w) :
    Calls Tryd.prog 13 #[.string t, .int .i64 i, v] w fun e w' => e = .returned (.string (foldT digT t i l)) ∧ Below w.heap.size w w' := by
  obtain ⟨a, c, rfl, s⟩ := h.strs
  have h := iFold_any t ht i a l.length c (by omega) _ hs w s hT
  rw [lst_getD] at h
  exact h

theorem sFold_row {B : Nat} {w : World} {v : Value} {l : List ByteArray} (t : ByteArray) (ht : t.size ≤ 1048576) (i : Int) (h : RowS B w v l) (hm : l.length ≤ 1048576) (hs : ∀ j, j < l.length → (l.getD j noT).size ≤ 1048576) :
    Calls Tryd.prog 18 #[.string t, .int .i64 i, v] w fun e w' => e = .returned (.string (foldT digT t i l)) ∧ Below w.heap.size w w' := by
  obtain ⟨a, c, rfl, s⟩ := h.strs
  have h := sFold_any t ht i a l.length c (by omega) _ hs w s
  rw [lst_getD] at h
  exact h

end Go.Proofs.YtkiljlmihoaaaaaDoor
