/-
  Texts of one's own, joined.
-/
import Derived.Test.YtfiflcedbejamaaCls
import Derived.Test.YtfiflcedbejamaaNest
import Derived.StillTail
import Derived.StillTailTactics

/-
  The steps of the law of a class where operations are guarded.
-/
namespace Go.Proofs.Ytfiflcedbejamaa

section
variable {P : Program} {ops : Array Oper} {C : World → Prop}

theorem cls_stepG {R : Act → Prop} {a : Act} {o : Oper} {rest : List Oper} (hg : Region.wanted o (yielded ops a.tmps) = true)
    (h : ∀ K : Act → Prop, (∀ a, WQ P ops C R rest a → K a) → ∃ v, (∀ w, C w → (execOp a.eval o).run P w = .ok (.value v) w) ∧ K (a.put o.dst v)) : WQ P ops C R (o :: rest) a := by
  refine ⟨wpQuiet_step fun K hK => ?_⟩
  rw [if_pos hg]
  obtain ⟨v, h1, h2⟩ := h K fun a ha => hK a ha.out
  exact ⟨v, fun w hw => by unfold Oper.quietAt; rw [h1 w hw]; exact ⟨rfl, rfl⟩, h2⟩

theorem cls_callG {R : Act → Prop} {a : Act} {o : Oper} {rest : List Oper} (hg : Region.wanted o (yielded ops a.tmps) = true)
    (h : ∀ K : Act → Prop, (∀ a, WQ P ops C R rest a → K a) → ∃ f args v, (∀ w, (execOp a.eval o).run P w = .ok (.enter f args) w) ∧ (∀ w, C w → Calls P f args w fun e w' => e = .returned v ∧ C w') ∧ K (a.put o.dst v)) : WQ P ops C R (o :: rest) a := by
  refine ⟨wpQuiet_step fun K hK => ?_⟩
  rw [if_pos hg]
  obtain ⟨f, args, v, h1, h2, h3⟩ := h K fun a ha => hK a ha.out
  exact ⟨v, fun w hw => by unfold Oper.quietAt; rw [h1 w]; exact ⟨rfl, h2 w hw⟩, h3⟩

/-- One that is passed over. -/
theorem cls_skip {R : Act → Prop} {a : Act} {o : Oper} {rest : List Oper} (hg : Region.wanted o (yielded ops a.tmps) = false)
    (h : ∀ K : Act → Prop, (∀ a, WQ P ops C R rest a → K a) → K (a.put o.dst undef)) : WQ P ops C R (o :: rest) a := by
  refine ⟨wpQuiet_step fun K hK => ?_⟩
  rw [if_neg (by rw [hg]; exact Bool.false_ne_true)]
  exact h K fun a ha => hK a ha.out

end
end Go.Proofs.Ytfiflcedbejamaa

/-
  The walks of the helpers of the exact laws on rows and systems: how long, copies, whether two are the same.
  (-DROP-: what the seat lacks is left out.)
-/
namespace Go.Proofs.Ytfiflcedbejamaa
open Go.RowKit

/-- What is left of so many, behind n of them. -/
def szF (L n : Nat) : Int := if n ≤ L then (L : Int) - (n : Int) else -1

/-- The three lists of a row that lies in a list. -/
theorem NAt.row3 {w : World} {c n cp : Nat} {a : Option Addr} {ls : List (List Int)} (h : NAt 3 w c (.slice a n cp) n ls) {i : Nat} (hi : i < n) : ∃ b off a0 c0 a1 c1 a2 c2, a = some ⟨b, off, none⟩ ∧ b < c ∧ w.cell? ⟨b, off + i * 3, none⟩ = some (.slice a0 (ls.getD (i * 3) []).length c0) ∧ w.cell? ⟨b, off + i * 3 + 1, none⟩ = some (.slice a1 (ls.getD (i * 3 + 1) []).length c1) ∧ w.cell? ⟨b, off + i * 3 + 2, none⟩ = some (.slice a2 (ls.getD (i * 3 + 2) []).length c2)
    ∧ IntsAt w a0 (ls.getD (i * 3) []).length c (fun j => (ls.getD (i * 3) []).getD j 0) ∧ IntsAt w a1 (ls.getD (i * 3 + 1) []).length c (fun j => (ls.getD (i * 3 + 1) []).getD j 0) ∧ IntsAt w a2 (ls.getD (i * 3 + 2) []).length c (fun j => (ls.getD (i * 3 + 2) []).getD j 0) := by
  obtain ⟨_, a', cp', hv, hc⟩ := h
  have ha : a = a' := by injection hv
  subst ha
  obtain ⟨b, off, u0, e0, l0, z0, a0, c0, rfl, i0⟩ := hc (i * 3) (by omega)
  obtain ⟨b1, off1, u1, e1, l1, z1, a1, c1, rfl, i1⟩ := hc (i * 3 + 1) (by omega)
  obtain ⟨b2, off2, u2, e2, l2, z2, a2, c2, rfl, i2⟩ := hc (i * 3 + 2) (by omega)
  subst e0
  obtain ⟨rfl, rfl⟩ : b = b1 ∧ off = off1 := by injection e1 with e; injection e with e3 e4; exact ⟨e3, e4⟩
  obtain ⟨rfl, rfl⟩ : b = b2 ∧ off = off2 := by injection e2 with e; injection e with e3 e4; exact ⟨e3, e4⟩
  exact ⟨b, off, a0, c0, a1, c1, a2, c2, rfl, l0, z0, z1, z2, i0, i1, i2⟩

theorem tot_take_three (ls : List (List Int)) (k : Nat) (h : (k + 1) * 3 ≤ ls.length) : tot (ls.take ((k + 1) * 3)) = tot (ls.take (k * 3)) + ((ls.getD (k * 3) []).length + (ls.getD (k * 3 + 1) []).length + (ls.getD (k * 3 + 2) []).length) := by
  have t2 : tot (ls.take (k * 3 + 3)) = tot (ls.take (k * 3 + 2)) + (ls.getD (k * 3 + 2) []).length := tot_take_next ls (j := k * 3 + 2) (by omega)
  have t1 : tot (ls.take (k * 3 + 2)) = tot (ls.take (k * 3 + 1)) + (ls.getD (k * 3 + 1) []).length := tot_take_next ls (j := k * 3 + 1) (by omega)
  have t0 := tot_take_next ls (j := k * 3) (by omega)
  rw [show (k + 1) * 3 = k * 3 + 3 by omega]
  omega

end Go.Proofs.Ytfiflcedbejamaa
