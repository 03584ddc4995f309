/-
  Texts of one's own, joined.
-/
import Derived.Test.YtlaoikpbgbckjaaDoorTreeI2
import Derived.Test.YtlaoikpbgbckjaaDoorJoined47
import Derived.Test.YtlaoikpbgbckjaaDoorTreeS5

/-
  The walks of the program's tree of hashes: the branch of a leaf.
  (-DROP-: what the seat lacks is left out.)
-/
namespace Go.Proofs.YtlaoikpbgbckjaaDoor
open Go.RowKit

/-- What the loop of the branch needs. -/
structure BrI (w wr : World) (o : Value) (g N : Nat) (br l : List ByteArray) (j i : Nat) (RES : List ByteArray) : Prop where
  out : RowS w.heap.size wr o br
  now : LevAt wr g N l
  apart : o.ownBlock ≠ some g
  bel : Below w.heap.size w wr
  len : l.length = 2 ^ j
  few : br.length + j ≤ 5
  lt : i < 2 ^ j
  res : RES = br ++ brL digT j l i
  sizes : ∀ k, k < l.length → (l.getD k noT).size ≤ 1048576

end Go.Proofs.YtlaoikpbgbckjaaDoor

/-
  The walks of the program's tree of hashes.
-/


/-
  The tree's contracts over lists that are told by a row.
  (-DROP-: what the seat lacks is left out.)
-/
namespace Go.Proofs.YtlaoikpbgbckjaaDoor
open Go.RowKit

theorem RowS.at {B : Nat} {w : World} {a : Option Addr} {n c : Nat} {l : List ByteArray} (h : RowS B w (.slice a n c) l) : StrsAt w a l.length w.heap.size (fun j => l.getD j noT) := by
  obtain ⟨a', c', e, hs⟩ := h.strs
  cases e
  exact hs

theorem iRoot_row {B : Nat} {w : World} {v : Value} {l : List ByteArray} (h : RowS B w v l) (hm : l.length ≤ 1048576) (hs : ∀ j, j < l.length → (l.getD j noT).size ≤ 1048576) (hT : Tab w) :
    Calls Tryd.prog 36 #[v] w fun e w' => e = .returned (.string (rootT digT l)) ∧ Below w.heap.size w w' := by
  obtain ⟨a, c, rfl, s⟩ := h.strs
  have h := iRootOf_any a l.length c (by omega) _ hs w s hT
  rw [lst_getD] at h
  exact h

theorem sRoot_row {B : Nat} {w : World} {v : Value} {l : List ByteArray} (h : RowS B w v l) (hm : l.length ≤ 1048576) (hs : ∀ j, j < l.length → (l.getD j noT).size ≤ 1048576) :
    Calls Tryd.prog 41 #[v] w fun e w' => e = .returned (.string (rootT digT l)) ∧ Below w.heap.size w w' := by
  obtain ⟨a, c, rfl, s⟩ := h.strs
  have h := sRootOf_any a l.length c (by omega) _ hs w s
  rw [lst_getD] at h
  exact h

theorem sBranch_row {B : Nat} {w : World} {v : Value} {l : List ByteArray} (i : Int) (h : RowS B w v l) (hm : l.length ≤ 1048576) (hs : ∀ j, j < l.length → (l.getD j noT).size ≤ 1048576) :
    Calls Tryd.prog 14 #[v, .int .i64 i] w fun e w' => ∃ u, e = .returned u ∧ RowS w.heap.size w' u (branchT digT l i) ∧ Below w.heap.size w w' := by
  obtain ⟨a, c, rfl, s⟩ := h.strs
  have h := sBranch_any a l.length c (by omega) i _ hs w s
  rw [lst_getD] at h
  exact h

end Go.Proofs.YtlaoikpbgbckjaaDoor
