/-
  What an argument that is a system is to the walk.
-/
import Derived.Test.YtbkfdafdchjakaaRwHelp3
import Derived.OpenShut
import Derived.Lib.SmallJoins
import Derived.Deep.Slices

namespace Go.Proofs.Ytbkfdafdchjakaa
open Go.RowKit Go.ChangeShapes Go.WideShapes Go.Joins Go.Deep

theorem cellsLR : Try.prog.cellsOf 119 = 3 := by kernel_rfl
theorem cellsLS : Try.prog.cellsOf 50 = 3 := by kernel_rfl
theorem cellsIs : Try.prog.cellsOf 27 = 1 := by kernel_rfl
theorem cellsI3 : Try.prog.cellsOf 3 = 1 := by kernel_rfl
theorem cellsRs : Try.prog.cellsOf 48 = 1 := by kernel_rfl

set_option maxRecDepth 100000 in
theorem zat_of {H : Type} {enc : TypeId × Value → H} {W : World} {sp : Nat → Bool} {fuel : Nat} {u : Value} {x : DataW H × List MemPlace} (h : DataW.trod enc Try.prog W 0 sp true fuel 27 [u] = some x) :
    ∃ l, ZAt W W.heap.size u l ∧ l.length ≤ 9223372036854775807 := by
  rcases open_ints Try.underlying27 Try.underlying3 (by kernel_rfl) h with ⟨hcs, _⟩ | ⟨y, len, cap, zs, hcs, _, hl, hm, hz, _, hcell, _⟩
  · simp at hcs
    subst hcs
    exact ⟨[], ⟨none, 0, rfl, fun j hj => by cases hj⟩, by simp⟩
  · simp at hcs
    subst hcs
    have hlz : len ≤ zs.length := by rw [hz]; split <;> omega
    have hA : IntsAt W (some y) len W.heap.size (fun j => zs.getD j 0) := by
      intro j hj
      obtain ⟨b, off, spot⟩ := y
      have hspot : spot = none := by simpa [Addr.add] using World.cell?_spot (hcell 0 (by omega))
      subst hspot
      have hc0 : W.cell? ⟨b, off + j, none⟩ = some (.int .i64 (zs.getD j 0)) := by rw [← Addr.add_lit]; exact hcell j (by omega)
      exact ⟨b, off, rfl, World.block_lt_of_cell? W _ hc0, hc0⟩
    refine ⟨zls (fun j => zs.getD j 0) len, ZAt.of hA, ?_⟩
    rw [zls_length]
    unfold maxLen at hm
    omega

/-- One of three. -/
def pick3 (q : List Int × List Int × List Int) (i : Nat) : List Int := if i = 0 then q.1 else if i = 1 then q.2.1 else q.2.2

set_option maxRecDepth 100000 in
theorem rows_of {H : Type} {enc : TypeId × Value → H} {W : World} {sp : Nat → Bool} {fuel : Nat} {a : Option Addr} {len cap : Nat} {x : DataW H × List MemPlace} (h : DataW.trod enc Try.prog W 0 sp true fuel 48 [.slice a len cap] = some x) :
    ∃ ls, NAt 3 W W.heap.size (.slice a len cap) len ls ∧ len ≤ 9223372036854775807 ∧ ∀ j, (ls.getD j []).length ≤ 9223372036854775807 := by
  rcases open_slice Try.underlying48 h with ⟨hcs, _⟩ | ⟨x, l, c, m, n, D, Pl, hcs, hb, hl, hm, hmm, _, hx⟩
  · simp at hcs
    obtain ⟨rfl, rfl, rfl⟩ := hcs
    exact ⟨[], ⟨by simp, none, 0, rfl, fun j hj => by omega⟩, by omega, fun j => by simp⟩
  · simp at hcs
    obtain ⟨rfl, rfl, rfl⟩ := hcs
    have hlm : len ≤ m := by rw [hmm]; split <;> omega
    have each : ∀ i, i < m → ∃ q : List Int × List Int × List Int, ∀ k, k < 3 → ∃ u, W.cell? (x.add (i * 3 + k)) = some u ∧ ZAt W W.heap.size u (pick3 q k) ∧ (pick3 q k).length ≤ 9223372036854775807 := by
      intro i hi
      obtain ⟨cs', h1, h2⟩ := hx i hi
      rw [cellsLR] at h1
      obtain ⟨_, hlen, hcell⟩ := World.cells?_some h1
      obtain ⟨y0, y1, y2, k, hxy, _, u0, u1, u2⟩ := trod_struct3 Try.underlying119 h2
      match cs', hlen with
      | [v0, v1, v2], _ =>
        simp only [cellsIs, List.drop, List.take] at u0 u1 u2
        obtain ⟨l0, z0, b0⟩ := zat_of u0
        obtain ⟨l1, z1, b1⟩ := zat_of u1
        obtain ⟨l2, z2, b2⟩ := zat_of u2
        have c0 := hcell 0 (by omega)
        have c1 := hcell 1 (by omega)
        have c2 := hcell 2 (by omega)
        rw [add_add] at c0 c1 c2
        refine ⟨(l0, l1, l2), fun k hk => ?_⟩
        have hk3 : k = 0 ∨ k = 1 ∨ k = 2 := by omega
        rcases hk3 with rfl | rfl | rfl
        · exact ⟨v0, by simpa using c0, z0, b0⟩
        · exact ⟨v1, by simpa using c1, z1, b1⟩
        · exact ⟨v2, by simpa using c2, z2, b2⟩
    obtain ⟨q, hq⟩ := choose_lt each
    have hls : ∀ j, j < len * 3 → ((List.range (len * 3)).map fun j => pick3 (q (j / 3)) (j % 3)).getD j [] = pick3 (q (j / 3)) (j % 3) := fun j hj => by simp [hj]
    refine ⟨(List.range (len * 3)).map fun j => pick3 (q (j / 3)) (j % 3), ⟨by simp, some x, cap, rfl, fun j hj => ?_⟩, by unfold maxLen at hm; omega, fun j => ?_⟩
    · obtain ⟨u, h1, h2, _⟩ := hq (j / 3) (by omega) (j % 3) (by omega)
      obtain ⟨b, off, spot⟩ := x
      obtain ⟨u', h1', _⟩ := hq 0 (by omega) 0 (by omega)
      have hspot : spot = none := by simpa [Addr.add] using World.cell?_spot h1'
      subst hspot
      rw [show j / 3 * 3 + j % 3 = j by omega, Addr.add_lit] at h1
      exact ⟨b, off, u, rfl, World.block_lt_of_cell? W _ h1, h1, by rw [hls j hj]; exact h2⟩
    · by_cases hj : j < len * 3
      · rw [hls j hj]
        obtain ⟨u, _, _, h3⟩ := hq (j / 3) (by omega) (j % 3) (by omega)
        exact h3
      · have e : ((List.range (len * 3)).map fun j => pick3 (q (j / 3)) (j % 3)).getD j [] = [] := by rw [List.getD_eq_getElem?_getD, List.getElem?_eq_none (by simp; omega)]; rfl
        rw [e]
        exact Nat.zero_le _

set_option maxRecDepth 100000 in
theorem system_form {H : Type} {enc : TypeId × Value → H} {W : World} {sp : Nat → Bool} {r : Reach} {b0 : Nat} {v : Value} {d : DataW H} {p : List MemPlace} (hv : Value.okWide Try.prog W r b0 50 v) (h : DataW.Trod enc Try.prog W 0 sp true 50 v d p) :
    ∃ wi pu a len cap ls, v = sysV wi pu (.slice a len cap) ∧ (Lit.int .i64 wi).wf = true ∧ NAt 3 W W.heap.size (.slice a len cap) len ls ∧ len ≤ 9223372036854775807 ∧ ∀ j, (ls.getD j []).length ≤ 9223372036854775807 := by
  obtain ⟨cs, rfl, hsz⟩ := okWide_struct Try.underlying50 hv
  obtain ⟨l⟩ := cs
  match l, hsz.trans cellsLS with
  | [c0, c1, c2], _ =>
    obtain ⟨fuel, hf⟩ := h
    obtain ⟨y0, y1, y2, n, _, _, u0, u1, u2⟩ := trod_struct3 Try.underlying50 hf
    simp only [Value.cells, cellsI3, cellsRs, List.drop, List.take] at u0 u1 u2
    obtain ⟨wi, e0, _, hw⟩ := DataW.trod_int Try.underlying3 u0
    obtain ⟨pu, e1, _, _⟩ := DataW.trod_int Try.underlying3 u1
    simp only [List.cons.injEq, and_true] at e0 e1
    subst e0
    subst e1
    have hc : ∃ a len cap, c2 = .slice a len cap := by
      rcases open_slice Try.underlying48 u2 with ⟨hcs, _⟩ | ⟨x, l, c, m, n, D, Pl, hcs, _⟩
      · simp at hcs
        exact ⟨_, _, _, hcs⟩
      · simp at hcs
        exact ⟨_, _, _, hcs⟩
    obtain ⟨a, len, cap, rfl⟩ := hc
    obtain ⟨ls, h2, h3, h4⟩ := rows_of u2
    exact ⟨wi, pu, a, len, cap, ls, rfl, hw, h2, h3, h4⟩

end Go.Proofs.Ytbkfdafdchjakaa
