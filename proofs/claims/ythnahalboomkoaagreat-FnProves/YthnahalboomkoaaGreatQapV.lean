/-
  A polynomial of each wire, in one form.
  (-DROP-: what the seat lacks is left out.)
-/
import Derived.Test.YthnahalboomkoaaGreatJoined20
import Derived.Test.YthnahalboomkoaaGreatJoined13

namespace Go.Proofs.YthnahalboomkoaaGreat
open Go.RowKit

theorem Blk.c30 {w : World} {g t : Nat} {a b c : Value} (h : Blk w g t #[a, b, c]) : w.cell? ⟨g, 0, none⟩ = some a := h.cell 0
theorem Blk.c31 {w : World} {g t : Nat} {a b c : Value} (h : Blk w g t #[a, b, c]) : w.cell? ⟨g, 1, none⟩ = some b := h.cell 1
theorem Blk.c32 {w : World} {g t : Nat} {a b c : Value} (h : Blk w g t #[a, b, c]) : w.cell? ⟨g, 2, none⟩ = some c := h.cell 2
/-- How many there are of each. -/
def qapC (wi pu : Int) (n : Nat) (ls : List (List Int)) : Nat := if sysOk wi pu n ls then wi.toNat else 0
theorem qapC_le (wi pu : Int) (n : Nat) (ls : List (List Int)) : qapC wi pu n ls ≤ 20 := by
  unfold qapC
  split
  · next h =>
    unfold sysOk at h
    simp only [Bool.and_eq_true, decide_eq_true_eq] at h
    omega
  · exact Nat.zero_le _
theorem qap_end {w : World} {wi pu : Int} {n : Nat} {ls : List (List Int)} {e : Ending} {w' : World} (h : QapEnd w wi pu n ls e w') : ∃ vuR vvR vxR usR vsR xsR, e = .returned (.tuple #[.agg #[vuR, vvR, vxR], .bool (sysOk wi pu n ls)]) ∧ Tri 27 w.heap.size w'.heap.size w' vuR (qapC wi pu n ls) usR (qapN ls n 0 (qapC wi pu n ls)) vvR (qapC wi pu n ls) vsR (qapN ls n 1 (qapC wi pu n ls)) vxR (qapC wi pu n ls) xsR (qapN ls n 2 (qapC wi pu n ls)) ∧ Below w.heap.size w w' := by
  rcases h with ⟨h0, rfl, hb⟩ | ⟨h1, U, V, X, us, vs, xs, rfl, hT, hb⟩
  · have e0 : qapC wi pu n ls = 0 := by unfold qapC; rw [h0]; rfl
    rw [e0, h0]
    exact ⟨_, _, _, [], [], [], rfl, ⟨nown_nil _ _ _ _ _, nown_nil _ _ _ _ _, nown_nil _ _ _ _ _, fun k h => by rcases h with h | ⟨i, hi, _⟩; cases h; omega, fun k h => by rcases h with h | ⟨i, hi, _⟩; cases h; omega, fun k h => by rcases h with h | ⟨i, hi, _⟩; cases h; omega⟩, hb⟩
  · have e1 : qapC wi pu n ls = wi.toNat := by unfold qapC; rw [h1]; rfl
    rw [e1, h1]
    exact ⟨U, V, X, us, vs, xs, rfl, hT, hb⟩
theorem qapN_small (ls : List (List Int)) (n t k j : Nat) : ((qapN ls n t k).getD j []).length ≤ 1048576 := by
  by_cases hj : j < k
  · rw [qapN_at ls n t k j hj]
    exact pThr_len _
  · rw [List.getD_eq_getElem?_getD, List.getElem?_eq_none (by rw [qapN_len]; omega)]
    exact Nat.zero_le _
theorem tot_le : ∀ (L : List (List Int)) (b : Nat), (∀ l, l ∈ L → l.length ≤ b) → tot L ≤ L.length * b
  | [], b, _ => by show 0 ≤ _; omega
  | l :: t, b, h => by
    have h1 := h l List.mem_cons_self
    have h2 := tot_le t b fun x hx => h x (List.mem_cons_of_mem _ hx)
    show l.length + tot t ≤ (t.length + 1) * b
    rw [Nat.add_mul]
    omega
theorem qapN_tot (ls : List (List Int)) (n t k : Nat) (hk : k ≤ 20) : tot (qapN ls n t k) ≤ 20971520 := by
  have h := tot_le (qapN ls n t k) 1048576 fun l hl => by
    obtain ⟨j, hj, rfl⟩ := List.getElem_of_mem hl
    have := qapN_small ls n t k j
    rwa [List.getD_eq_getElem?_getD, List.getElem?_eq_getElem hj] at this
  rw [qapN_len] at h
  omega

theorem iQapV (wi pu : Int) (hwf : (Lit.int .i64 wi).wf = true) (a : Option Addr) (n c : Nat) (hn : n ≤ 9223372036854775807) (ls : List (List Int)) (hz : ∀ j, (ls.getD j []).length ≤ 9223372036854775807) (w : World) (hA : NAt 3 w w.heap.size (.slice a n c) n ls) :
    Calls Tryz.prog 123 #[sysV wi pu (.slice a n c)] w fun e w' => ∃ vuR vvR vxR usR vsR xsR, e = .returned (.tuple #[.agg #[vuR, vvR, vxR], .bool (sysOk wi pu n ls)]) ∧ Tri 27 w.heap.size w'.heap.size w' vuR (qapC wi pu n ls) usR (qapN ls n 0 (qapC wi pu n ls)) vvR (qapC wi pu n ls) vsR (qapN ls n 1 (qapC wi pu n ls)) vxR (qapC wi pu n ls) xsR (qapN ls n 2 (qapC wi pu n ls)) ∧ Below w.heap.size w w' :=
  (iQapOf_any wi pu hwf a n c hn ls hz w hA).mono fun _ _ h => qap_end h


end Go.Proofs.YthnahalboomkoaaGreat
