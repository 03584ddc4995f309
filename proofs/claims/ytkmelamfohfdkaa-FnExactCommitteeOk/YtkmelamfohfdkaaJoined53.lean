/-
  Texts of one's own, joined.
-/
import Derived.Test.YtkmelamfohfdkaaJoined21
import Derived.OpenShut
import Derived.Lib.SmallJoins
import Derived.Deep.Slices
import Derived.Test.YtkmelamfohfdkaaCommS2

/-
  What an argument of points is to the walk.
-/
namespace Go.Proofs.Ytkmelamfohfdkaa
open Go.RowKit Go.ChangeShapes Go.WideShapes Go.Joins Go.Deep

theorem cellsLP : Try.prog.cellsOf 55 = 3 := by kernel_rfl
theorem cells3P : Try.prog.cellsOf 3 = 1 := by kernel_rfl
theorem cells4P : Try.prog.cellsOf 4 = 1 := by kernel_rfl

set_option maxRecDepth 100000 in
theorem ptsAt_of {H : Type} {enc : TypeId × Value → H} {W : World} {sp : Nat → Bool} {fuel : Nat} {a : Option Addr} {len cap : Nat} {x : DataW H × List MemPlace} (h : DataW.trod enc Try.prog W 0 sp true fuel 22 [.slice a len cap] = some x) :
    ∃ f, PtsAt W a len W.heap.size f ∧ len ≤ 9223372036854775807 := by
  rcases open_slice Try.underlying22 h with ⟨hcs, _⟩ | ⟨x, l, c, m, n, D, Pl, hcs, hb, hl, hm, hmm, _, hx⟩
  · simp at hcs
    obtain ⟨rfl, rfl, rfl⟩ := hcs
    exact ⟨fun _ => (0, 0, false), fun j hj => by omega, by omega⟩
  · simp at hcs
    obtain ⟨rfl, rfl, rfl⟩ := hcs
    have hlm : len ≤ m := by rw [hmm]; split <;> omega
    have each : ∀ i, i < m → ∃ q : Pt, W.cell? (x.add (i * 3)) = some (.int .i64 q.1) ∧ W.cell? (x.add (i * 3 + 1)) = some (.int .i64 q.2.1) ∧ W.cell? (x.add (i * 3 + 2)) = some (.bool q.2.2) := by
      intro i hi
      obtain ⟨cs', h1, h2⟩ := hx i hi
      rw [cellsLP] at h1
      obtain ⟨_, hlen, hcell⟩ := World.cells?_some h1
      obtain ⟨y0, y1, y2, k, hxy, _, u0, u1, u2⟩ := trod_struct3 Try.underlying55 h2
      match cs', hlen with
      | [v0, v1, v2], _ =>
        simp only [cells3P, cells4P, List.drop, List.take] at u0 u1 u2
        obtain ⟨s, e0, d0, _⟩ := DataW.trod_int Try.underlying3 u0
        obtain ⟨q, e1, d1, _⟩ := DataW.trod_int Try.underlying3 u1
        obtain ⟨p, e2, d2⟩ := DataW.trod_bool Try.underlying4 u2
        simp only [List.cons.injEq, and_true] at e0 e1 e2
        subst e0; subst e1; subst e2
        have c0 := hcell 0 (by omega)
        have c1 := hcell 1 (by omega)
        have c2 := hcell 2 (by omega)
        rw [add_add] at c0 c1 c2
        exact ⟨(s, q, p), by simpa using c0, by simpa using c1, by simpa using c2⟩
    obtain ⟨q, hq⟩ := choose_lt each
    refine ⟨q, fun j hj => ?_, by unfold maxLen at hm; omega⟩
    obtain ⟨c0, c1, c2⟩ := hq j (by omega)
    obtain ⟨b, off, spot⟩ := x
    have hspot : spot = none := by simpa [Addr.add] using World.cell?_spot (hq 0 (by omega)).1
    subst hspot
    rw [Addr.add_lit] at c0 c1 c2
    exact ⟨b, off, rfl, World.block_lt_of_cell? W _ c0, c0, c1, c2⟩

end Go.Proofs.Ytkmelamfohfdkaa

/-
  What an argument that is a committee is to the walk.
-/
namespace Go.Proofs.Ytkmelamfohfdkaa
open Go.RowKit Go.ChangeShapes Go.WideShapes Go.Joins Go.Deep

theorem cellsLC : Try.prog.cellsOf 24 = 1 := by kernel_rfl
theorem cellsLPs : Try.prog.cellsOf 22 = 1 := by kernel_rfl

set_option maxRecDepth 100000 in
theorem comm_form {H : Type} {enc : TypeId × Value → H} {W : World} {sp : Nat → Bool} {r : Reach} {b0 : Nat} {v : Value} {d : DataW H} {p : List MemPlace} (hv : Value.okWide Try.prog W r b0 24 v) (h : DataW.Trod enc Try.prog W 0 sp true 24 v d p) :
    ∃ a len cap f, v = cv a len cap ∧ PtsAt W a len W.heap.size f ∧ len ≤ 9223372036854775807 := by
  obtain ⟨cs, rfl, hsz⟩ := okWide_struct Try.underlying24 hv
  obtain ⟨l⟩ := cs
  match l, hsz.trans cellsLC with
  | [c0], _ =>
    obtain ⟨fuel, hf⟩ := h
    obtain ⟨y0, n, _, _, h0⟩ := trod_struct1 Try.underlying24 hf
    have h1 : DataW.trod enc Try.prog W 0 sp true n 22 [c0] = some y0 := by simpa [Value.cells, cellsLPs] using h0
    have hc : ∃ a len cap, c0 = .slice a len cap := by
      rcases open_slice Try.underlying22 h1 with ⟨hcs, _⟩ | ⟨x, l, c, m, n, D, Pl, hcs, _⟩
      · simp at hcs
        exact ⟨_, _, _, hcs⟩
      · simp at hcs
        exact ⟨_, _, _, hcs⟩
    obtain ⟨a, len, cap, rfl⟩ := hc
    obtain ⟨f, h2, h3⟩ := ptsAt_of h1
    exact ⟨a, len, cap, f, rfl, h2, h3⟩

end Go.Proofs.Ytkmelamfohfdkaa
