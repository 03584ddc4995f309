/-
  The walk of the specification's rows as one product: a polynomial of each wire.
  (-DROP-: what the seat lacks is left out.)
-/
import Derived.Test.YthnahalboomkoaaGreatJoined10
import Derived.Test.YthnahalboomkoaaGreatJoined13
import Derived.Test.YthnahalboomkoaaGreatJoined12
import Derived.Test.YthnahalboomkoaaGreatJoined6
import Derived.Test.YthnahalboomkoaaGreatJoined11
import Derived.Test.YthnahalboomkoaaGreatJoined14

namespace Go.Proofs.YthnahalboomkoaaGreat
open Go.RowKit

theorem infoQa : (Tryz.prog.info? 122).map (·.size) = some 3 := by kernel_rfl
theorem onesQa (a : Option Addr) (n c : Nat) (a1 : Option Addr) (n1 c1 : Nat) (a2 : Option Addr) (n2 c2 : Nat) : (#[Value.slice a n c, .slice a1 n1 c1, .slice a2 n2 c2]).all (·.oneCell') = true := by simp [Value.oneCell']
theorem infoIs : (Tryz.prog.info? 27).map (fun i => (i.zero, i.size, i.bytes)) = some (some (.slice none 0 0), 1, 24) := by kernel_rfl
theorem loadLs {W : World} {g i : Nat} {u : Value} (h : W.cell? ⟨g, i, none⟩ = some u) : LoadsTo Tryz.prog 120 ⟨g, i, none⟩ u W := by
  constructor
  go_simp

/-- Three empty lists. -/
theorem lit3 (w : World) : Row3s w.heap.size (((w.alloc (.cells #[] 3)).alloc (.cells #[] 3)).alloc (.cells #[] 3)) (.slice (some ⟨w.heap.size, 0, none⟩) 0 0) (.slice (some ⟨w.heap.size + 1, 0, none⟩) 0 0) (.slice (some ⟨w.heap.size + 1 + 1, 0, none⟩) 0 0) [] [] [] := by
  have h0 : RowZs w.heap.size (w.alloc (.cells #[] 3)) (.slice (some ⟨w.heap.size, 0, none⟩) 0 0) [] := own_lit w [] (by simp)
  have h1 : RowZs w.heap.size ((w.alloc (.cells #[] 3)).alloc (.cells #[] 3)) (.slice (some ⟨w.heap.size + 1, 0, none⟩) 0 0) [] := by
    have h := own_lit (w.alloc (.cells #[] 3)) [] (by simp)
    rw [show (w.alloc (.cells #[] 3)).heap.size = w.heap.size + 1 by simp] at h
    exact owns_low h (by omega)
  have h2 : RowZs w.heap.size (((w.alloc (.cells #[] 3)).alloc (.cells #[] 3)).alloc (.cells #[] 3)) (.slice (some ⟨w.heap.size + 1 + 1, 0, none⟩) 0 0) [] := by
    have h := own_lit ((w.alloc (.cells #[] 3)).alloc (.cells #[] 3)) [] (by simp)
    rw [show ((w.alloc (.cells #[] 3)).alloc (.cells #[] 3)).heap.size = w.heap.size + 1 + 1 by simp] at h
    exact owns_low h (by omega)
  refine ⟨World.ownsRow.alloc (World.ownsRow.alloc h0 _) _, World.ownsRow.alloc h1 _, h2, fun k p q => ?_, fun k p q => ?_, fun k p q => ?_⟩
  · have e1 : w.heap.size = k := Option.some.inj p
    have e2 : w.heap.size + 1 = k := Option.some.inj q
    omega
  · have e1 : w.heap.size = k := Option.some.inj p
    have e2 : w.heap.size + 1 + 1 = k := Option.some.inj q
    omega
  · have e1 : w.heap.size + 1 = k := Option.some.inj p
    have e2 : w.heap.size + 1 + 1 = k := Option.some.inj q
    omega
theorem wide_lenQ {ls : List (List Int)} {wi : Int} (h : (ls.all fun l => wide l wi) = true) {k : Nat} (hk : k < ls.length) : ((ls.getD k []).length : Int) = wi := by
  have h1 := List.all_eq_true.1 h (ls.getD k []) (by rw [List.getD_eq_getElem?_getD, List.getElem?_eq_getElem hk]; exact List.getElem_mem hk)
  unfold wide at h1
  rw [Bool.and_eq_true] at h1
  exact of_decide_eq_true h1.1

/-- What it leaves. -/
def QapEnd (w : World) (wi pu : Int) (n : Nat) (ls : List (List Int)) (e : Ending) (w' : World) : Prop :=
  (sysOk wi pu n ls = false ∧ e = .returned (.tuple #[.agg #[.slice none 0 0, .slice none 0 0, .slice none 0 0], .bool false]) ∧ Below w.heap.size w w') ∨
  (sysOk wi pu n ls = true ∧ ∃ U V X us vs xs, e = .returned (.tuple #[.agg #[U, V, X], .bool true]) ∧ Tri 27 w.heap.size w'.heap.size w' U wi.toNat us (qapN ls n 0 wi.toNat) V wi.toNat vs (qapN ls n 1 wi.toNat) X wi.toNat xs (qapN ls n 2 wi.toNat) ∧ Below w.heap.size w w')

end Go.Proofs.YthnahalboomkoaaGreat
