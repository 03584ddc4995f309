/-
  Texts of one's own, joined.
-/
import Derived.Test.YtbkfdafdchjakaaRwDraw
import Derived.Test.YtbkfdafdchjakaaJoined10

/-
  The draw of a system, right or not, and of numbers for it.
  (-DROP-: what the seat lacks is left out.)
-/
namespace Go.Proofs.Ytbkfdafdchjakaa
open Go.RowKit

/-- The rest of a list. -/
theorem ZOwn.rest {lo hi : Nat} {w : World} {g n c : Nat} {l : List Int} (h : ZOwn lo hi w (.slice (some ⟨g, 0, none⟩) n c) l) (hn : n = l.length) (h1 : 1 ≤ l.length) (cp : Nat) : ZAt w hi (.slice (some ⟨g, 1, none⟩) (n - 1) cp) l.tail := by
  obtain ⟨a, cq, hv, hI⟩ := h.at
  injection hv with e1 e2 e3
  subst e1
  refine ⟨some ⟨g, 1, none⟩, cp, by rw [hn, List.length_tail], ?_⟩
  rw [List.length_tail]
  intro j hj
  obtain ⟨b, off, e, hb, hc⟩ := hI (j + 1) (by omega)
  injection e with e
  injection e with e4 e5
  subst e4
  subst e5
  refine ⟨g, 1, rfl, hb, ?_⟩
  rw [show 1 + j = 0 + (j + 1) by omega, hc]
  congr 2
  cases l with
  | nil => rfl
  | cons x t => rfl

/-- One of the cells of a list of structs holds another list. -/
theorem nat_put {sz e lo hi n : Nat} {w : World} {v : Value} {vs : List Value} {ls : List (List Int)} {j : Nat} {u : Value} {l : List Int} (hr : w.ownsRow lo e sz v n (vs.set j u)) (htop : ∀ k, v.ownBlock = some k → k < hi) (hlen : ls.length = n * sz) (heach : ∀ i, i < n * sz → i ≠ j → ZAt w hi (vs.getD i undef) (ls.getD i [])) (hu : ZAt w hi u l) (hj : j < n * sz) : NAt sz w hi v n (ls.set j l) := by
  have hvl : vs.length = n * sz := by have := hr.1; simpa using this
  refine ⟨by simpa using hlen, ?_⟩
  rcases hr.2 with ⟨rfl, h0⟩ | ⟨g, cp, cur, rfl, hg, hh, hrest⟩
  · rw [h0] at hj; omega
  · refine ⟨_, cp, rfl, fun i hi' => ⟨g, 0, (vs.set j u).getD i undef, rfl, htop g rfl, ?_, ?_⟩⟩
    · rw [Nat.zero_add, World.ownsRow.cellAt hr i hi', List.getD_eq_getElem?_getD, List.getElem?_eq_getElem (by simp; omega)]
      rfl
    · by_cases hij : j = i
      · subst hij
        rw [getD_set_same _ _ _ _ (by omega), getD_set_same _ _ _ _ (by omega)]
        exact hu
      · rw [getD_set_other _ _ _ _ _ hij, getD_set_other _ _ _ _ _ hij]
        exact heach i hi' (fun e => hij e.symm)

theorem heap_cell {w w' : World} {p : Addr} {x : Option Value} (h : w.cell? p = x) (e : w'.heap = w.heap) : w'.cell? p = x := (World.cell?_of_block (by rw [e])).trans h
theorem heap_free {w w' : World} {p : Addr} (h : w.frozen? p = false) (e : w'.heap = w.heap) : w'.frozen? p = false := by
  rw [← h]
  unfold World.frozen?
  rw [e]
/-- A small number is one that an int holds. -/
theorem wf_small {z : Int} (h0 : -1000000 ≤ z) (h1 : z ≤ 1000000) : (Lit.int .i64 z).wf = true := by
  have e1 : IntKind.i64.min = -9223372036854775808 := rfl
  have e2 : IntKind.i64.max = 9223372036854775807 := rfl
  simp [Lit.wf]
  omega

/-- What a draw of a system, right or not, leaves. -/
def AnyEnd (w : World) (c : Nat) (a : Option Addr) (len cap : Nat) (e : Ending) (w' : World) : Prop := ∃ (wi pu : Int) (v u : Value) (n : Nat) (ls : List (List Int)) (m : List Int), e = .returned (.tuple #[sysV wi pu v, u]) ∧ (Lit.int .i64 wi).wf = true ∧ n ≤ 16 ∧ (∀ j, (ls.getD j []).length ≤ 16) ∧ m.length ≤ 16 ∧ (∀ V, Same w.heap.size w'.heap.size w' V → NAt 3 V w'.heap.size v n ls ∧ ZAt V w'.heap.size u m) ∧ CurEnd w w' c a len cap

end Go.Proofs.Ytbkfdafdchjakaa

/-
  The draws of systems for what becomes of them.
  (-DROP-: what the seat lacks is left out.)
-/
namespace Go.Proofs.Ytbkfdafdchjakaa
open Go.RowKit

/-- What the draw leaves. -/
def QuoEnd (w : World) (e : Ending) (w' : World) : Prop := ∃ (wi pu : Int) (v u : Value) (n : Nat) (ls : List (List Int)) (m : List Int), e = .returned (.tuple #[sysV wi pu v, u]) ∧ (Lit.int .i64 wi).wf = true ∧ n ≤ 16 ∧ (∀ j, (ls.getD j []).length ≤ 16) ∧ m.length ≤ 16 ∧ NAt 3 w' w'.heap.size v n ls ∧ ZAt w' w'.heap.size u m ∧ Below w.heap.size w w'

/-- What the draw of a system alone leaves. -/
def QapOfEnd (w : World) (e : Ending) (w' : World) : Prop := ∃ (wi pu : Int) (v : Value) (n : Nat) (ls : List (List Int)), e = .returned (sysV wi pu v) ∧ (Lit.int .i64 wi).wf = true ∧ n ≤ 16 ∧ (∀ j, (ls.getD j []).length ≤ 16) ∧ NAt 3 w' w'.heap.size v n ls ∧ Below w.heap.size w w'

end Go.Proofs.Ytbkfdafdchjakaa
