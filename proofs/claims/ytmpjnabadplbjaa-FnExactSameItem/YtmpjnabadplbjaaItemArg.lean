/-
  What an argument that is an item is to the walk.
  (-DROP-: what the seat lacks is left out.)
-/
import Derived.Test.YtmpjnabadplbjaaItemPure
import Derived.OpenShut
import Derived.Lib.SmallJoins
import Derived.Deep.Slices
import Derived.Deep.Strs
namespace Go.Proofs.Ytmpjnabadplbjaa
open Go.RowKit Go.ChangeShapes Go.WideShapes Go.Joins Go.Deep

theorem cellsLI : Try.prog.cellsOf 45 = 3 := by kernel_rfl
theorem cellsLK : Try.prog.cellsOf 43 = 1 := by kernel_rfl
theorem cellsB4 : Try.prog.cellsOf 4 = 1 := by kernel_rfl
theorem cellsS9 : Try.prog.cellsOf 9 = 1 := by kernel_rfl

theorem trod_struct3f {H : Type} {enc : TypeId × Value → H} {P : Program} {w : World} {base : Nat} {spare : Nat → Bool} {held : Bool} {t : TypeId} {f0 f1 f2 : Field} {fuel : Nat} {cs : List Value} {x : DataW H × List MemPlace} (ht : P.underlying t = some (.struct #[f0, f1, f2])) (h : DataW.trod enc P w base spare held fuel t cs = some x) :
    ∃ y0 y1 y2 n, fuel = n + 1 ∧ DataW.trod enc P w base spare held n f0.type ((cs.drop f0.offset).take (P.cellsOf f0.type)) = some y0 ∧ DataW.trod enc P w base spare held n f1.type ((cs.drop f1.offset).take (P.cellsOf f1.type)) = some y1 ∧ DataW.trod enc P w base spare held n f2.type ((cs.drop f2.offset).take (P.cellsOf f2.type)) = some y2 := by
  obtain ⟨xs, n, hn, rfl, hl, hlen, hf⟩ := DataW.trod_struct ht h
  match xs, hlen with
  | [y0, y1, y2], _ => exact ⟨y0, y1, y2, n, hn, by simpa using hf 0 f0 rfl, by simpa using hf 1 f1 rfl, by simpa using hf 2 f2 rfl⟩

set_option maxRecDepth 100000 in
theorem kids_of {H : Type} {enc : TypeId × Value → H} {W : World} {sp : Nat → Bool} : ∀ (d fuel : Nat), fuel ≤ 2 * d → ∀ (cs : List Value) (x : DataW H × List MemPlace), DataW.trod enc Try.prog W 0 sp true fuel 43 cs = some x →
    ∃ a cap, ∃ K : List (It d), cs = [.slice a K.length cap] ∧ KAt d W W.heap.size (.slice a K.length cap) K
  | 0, fuel, hd, cs, x, h => by
    obtain rfl : fuel = 0 := by omega
    simp [DataW.trod] at h
  | d + 1, fuel, hd, cs, x, h => by
    rcases DataW.trod_slice Try.underlying43 h with ⟨hcs, _⟩ | ⟨x, len, cap, elems, rest, n, hn, hcs, _, hb, hl, hm, hlen, hel, _, _⟩
    · exact ⟨none, 0, [], hcs, none, 0, rfl, Nat.zero_le _, fun j hj => absurd hj (Nat.not_lt_zero _)⟩
    · have each : ∀ i, i < len → ∃ e : It (d + 1), ∃ u, W.cell? (x.add (i * 3)) = some (.bool (itL e)) ∧ W.cell? (x.add (i * 3 + 1)) = some (.string (itT e)) ∧ W.cell? (x.add (i * 3 + 2)) = some u ∧ (itT e).size ≤ 9223372036854775807 ∧ KAt d W W.heap.size u (itK e) := by
        intro i hi
        have h1 := hel i hi
        rw [List.getElem?_eq_getElem (by omega), cellsLI] at h1
        obtain ⟨cs', h2, h3⟩ := Option.bind_eq_some_iff.1 h1
        obtain ⟨_, hl3, hcell⟩ := World.cells?_some h2
        obtain ⟨y0, y1, y2, m, hm2, f0, f1, f2⟩ := trod_struct3f Try.underlying45 h3
        match cs', hl3 with
        | [v0, v1, v2], _ =>
          simp only [cellsB4, cellsS9, cellsLK, List.drop, List.take] at f0 f1 f2
          obtain ⟨l, e0, _⟩ := DataW.trod_bool Try.underlying4 f0
          obtain ⟨t, e1, _, ht⟩ := DataW.trod_string Try.underlying9 f1
          obtain ⟨a, c, K, e2, hK⟩ := kids_of d m (by omega) _ _ f2
          simp only [List.cons.injEq, and_true] at e0 e1 e2
          subst e0 e1 e2
          have c0 := hcell 0 (by omega)
          have c1 := hcell 1 (by omega)
          have c2 := hcell 2 (by omega)
          rw [add_add] at c0 c1 c2
          unfold maxLen at ht
          have d0 : W.cell? (x.add (i * 3)) = some (.bool l) := by simpa using c0
          have d1 : W.cell? (x.add (i * 3 + 1)) = some (.string t) := by simpa using c1
          have d2 : W.cell? (x.add (i * 3 + 2)) = some (.slice a K.length c) := by simpa using c2
          exact ⟨((l, t, K) : Bool × ByteArray × List (It d)), _, d0, d1, d2, ht, hK⟩
      have : Inhabited (It (d + 1)) := ⟨((false, ⟨#[]⟩, []) : Bool × ByteArray × List (It d))⟩
      obtain ⟨q, hq⟩ := choose_lt each
      have hL : ((List.range len).map q).length = len := by simp
      refine ⟨some x, cap, (List.range len).map q, by rw [hcs, hL], some x, cap, rfl, by unfold maxLen at hm; rw [hL]; omega, fun j hj => ?_⟩
      have hj' : j < len := by rw [hL] at hj; exact hj
      have e : ((List.range len).map q)[j] = q j := by simp
      rw [e]
      obtain ⟨u, c0, c1, c2, h4, h5⟩ := hq j hj'
      obtain ⟨b, off, spot⟩ := x
      have hspot : spot = none := by
        obtain ⟨_, c9, _⟩ := hq 0 (by omega)
        simpa [Addr.add] using World.cell?_spot c9
      subst hspot
      rw [Addr.add_lit] at c0 c1 c2
      exact ⟨u, ⟨b, off, rfl, World.block_lt_of_cell? W _ c0, c0, c1, c2⟩, h4, h5⟩

set_option maxRecDepth 100000 in
theorem item_form {H : Type} {enc : TypeId × Value → H} {W : World} {sp : Nat → Bool} {r : Reach} {b0 : Nat} {v : Value} {d : DataW H} {p : List MemPlace} (hv : Value.okWide Try.prog W r b0 45 v) (h : DataW.Trod enc Try.prog W 0 sp true 45 v d p) :
    ∃ (n : Nat) (x : It (n + 1)) (u : Value), v = itV (itL x) (itT x) u ∧ KAt n W W.heap.size u (itK x) ∧ (itT x).size ≤ 9223372036854775807 := by
  obtain ⟨cs, rfl, hsz⟩ := okWide_struct Try.underlying45 hv
  obtain ⟨l⟩ := cs
  match l, hsz.trans cellsLI with
  | [c0, c1, c2], _ =>
    obtain ⟨fuel, hf⟩ := h
    obtain ⟨y0, y1, y2, n, _, _, u0, u1, u2⟩ := trod_struct3 Try.underlying45 hf
    simp only [Value.cells, cellsB4, cellsS9, cellsLK, List.drop, List.take] at u0 u1 u2
    obtain ⟨l, e0, _⟩ := DataW.trod_bool Try.underlying4 u0
    obtain ⟨t, e1, _, ht⟩ := DataW.trod_string Try.underlying9 u1
    obtain ⟨a, c, K, e2, hK⟩ := kids_of n n (by omega) _ _ u2
    simp only [List.cons.injEq, and_true] at e0 e1 e2
    subst e0 e1 e2
    unfold maxLen at ht
    exact ⟨n, (l, t, K), _, rfl, hK, ht⟩

end Go.Proofs.Ytmpjnabadplbjaa
