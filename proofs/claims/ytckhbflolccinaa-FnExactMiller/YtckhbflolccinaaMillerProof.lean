/-
  For all points p, q: FnExactMiller returns true: impl.Miller answers as spec.Miller does; no condition.
-/
import Derived.Test.YtckhbflolccinaaRows
import Derived.Test.YtckhbflolccinaaPairLaws
import Derived.Lib.SmallJoins
import Derived.ProofKit
import Derived.OpenShut
import Derived.ShutString
import Derived.ChangeOld
import Derived.Below
namespace Go.Proofs.Ytckhbflolccinaa
open Go.ChangeShapes Go.WideShapes Go.ChangeAt Go.RowKit
open Go.ChangeMaps (open_string shut_string)
open Go.Joins
set_option linter.unusedVariables false

theorem fnExactMiller_own : ownKnob Try.prog.godebug = none := by kernel_rfl

set_option maxRecDepth 100000 in
theorem fnExactMiller_lifted (os : Os) (started : os.Started) (H : Type) (enc : TypeId × Value → H) :
    ReturnsInHanded {} Try.checked os 6 .any (Rows.fnExactMillerSpec.pre6 enc Try.prog Try.f6 Rows.fnExactMillerRow.domain false) (Rows.fnExactMillerSpec.post enc Try.prog Try.f6 false true false false) := by
  refine returnsInHanded_of_change (C := Try.checked) fnExactMiller_own started (by kernel_rfl) Try.func6
    (ChangeSpec.witness6 (enc := enc) (C := Try.checked) false ⟨#[], #[.agg #[.int .i64 0, .int .i64 0, .bool false], .agg #[.int .i64 0, .int .i64 0, .bool false]], []⟩ 8 (by kernel_rfl) (by kernel_rfl) (by kernel_rfl) (by kernel_rfl)) ?_
  intro W base args ds gs before hval0 hW hcnd _
  have hval : ∀ (j : Nat) t v, Try.f6.params[j]? = some t → args[j]? = some v → Value.okWide Try.prog W .any base t v := hval0
  have hW' := hW
  obtain ⟨p, q, hA0, hV, rfl, hfz, hnd⟩ := hW
  have hA : DataW.TrodAll enc Try.prog W 0 (fun _ => true) true Try.f6.params.toList args.toList ds p := hA0
  rw [Try.params6] at hA hval
  obtain ⟨v0, vs0, d0, ds0, p0, q0, hargs, rfl, rfl, h0, r0⟩ := trodAll_cons hA
  obtain ⟨v1, vs1, d1, ds1, p1, q1, rfl, rfl, rfl, h1, r1⟩ := trodAll_cons r0
  obtain ⟨rfl, rfl, rfl⟩ := trodAll_nil r1
  obtain rfl : args = #[v0, v1] := by cases args; simp_all
  obtain ⟨rfl, rfl⟩ := trodVars_none hV
  obtain ⟨c00, c01, c02, y00, y01, y02, m0, rfl, rfl, rfl, hy00, hy01, hy02⟩ := open_agg3 Try.underlying46 (by kernel_rfl) (show Try.prog.cellsOf 46 = 3 by kernel_rfl) (hval 0 46 v0 rfl rfl) h0
  obtain ⟨a0, e00, rfl, w0⟩ := DataW.trod_int Try.underlying3 hy00
  obtain ⟨b0, e01, rfl, x0⟩ := DataW.trod_int Try.underlying3 hy01
  obtain ⟨z0, e02, rfl⟩ := DataW.trod_bool Try.underlying4 hy02
  simp at e00 e01 e02
  subst e00 e01 e02
  have rd0 : ∀ (W' : World) (sp : Nat → Bool), DataW.Trod enc Try.prog W' 0 sp true 46 (.agg #[.int .i64 a0, .int .i64 b0, .bool z0]) (.agg [.lit (.int .i64 a0), .lit (.int .i64 b0), .lit (.bool z0)]) [] := fun W' sp =>
    shut_agg3 (y0 := (.lit (.int .i64 a0), [])) (y1 := (.lit (.int .i64 b0), [])) (y2 := (.lit (.bool z0), [])) Try.underlying46 (by kernel_rfl) (show Try.prog.cellsOf 46 = 3 by kernel_rfl) ⟨1, by simp [DataW.trod, Try.underlying3, w0]⟩ ⟨1, by simp [DataW.trod, Try.underlying3, x0]⟩ ⟨1, by simp [DataW.trod, Try.underlying4]⟩
  obtain ⟨c10, c11, c12, y10, y11, y12, m1, rfl, rfl, rfl, hy10, hy11, hy12⟩ := open_agg3 Try.underlying46 (by kernel_rfl) (show Try.prog.cellsOf 46 = 3 by kernel_rfl) (hval 1 46 v1 rfl rfl) h1
  obtain ⟨a1, e10, rfl, w1⟩ := DataW.trod_int Try.underlying3 hy10
  obtain ⟨b1, e11, rfl, x1⟩ := DataW.trod_int Try.underlying3 hy11
  obtain ⟨z1, e12, rfl⟩ := DataW.trod_bool Try.underlying4 hy12
  simp at e10 e11 e12
  subst e10 e11 e12
  have rd1 : ∀ (W' : World) (sp : Nat → Bool), DataW.Trod enc Try.prog W' 0 sp true 46 (.agg #[.int .i64 a1, .int .i64 b1, .bool z1]) (.agg [.lit (.int .i64 a1), .lit (.int .i64 b1), .lit (.bool z1)]) [] := fun W' sp =>
    shut_agg3 (y0 := (.lit (.int .i64 a1), [])) (y1 := (.lit (.int .i64 b1), [])) (y2 := (.lit (.bool z1), [])) Try.underlying46 (by kernel_rfl) (show Try.prog.cellsOf 46 = 3 by kernel_rfl) ⟨1, by simp [DataW.trod, Try.underlying3, w1]⟩ ⟨1, by simp [DataW.trod, Try.underlying3, x1]⟩ ⟨1, by simp [DataW.trod, Try.underlying4]⟩
  clear hA0 hval0
  simp only [List.append_nil] at hW'
  refine (lawMiller (a0, b0, z0) (a1, b1, z1)  W).mono fun e W' ⟨he, bel⟩ => ?_
  subst he
  exact ⟨_, rfl, _, _, _, [], _, [], hW', trodAll_mk1 (shut_bool Try.underlying4 _), (trodAll_cons_mk (rd0 _ _) (trodAll_cons_mk (rd1 _ _) trodAll_mk0)), rfl, bel.frame _, fun h => by cases h⟩

theorem fnExactMiller_over : Rows.fnExactMillerRow.holds Try.pinned (OpenSpec.ofChange Rows.fnExactMillerSpec) :=
  OpenClaim.holds_of_wide 6 Try.f6 rfl rfl rfl rfl rfl rfl rfl ⟨rfl, rfl, rfl, rfl, rfl⟩ rfl rfl rfl rfl rfl (by kernel_rfl) Try.func6 (by kernel_rfl)
    (of_decide_eq_true (by kernel_rfl)) (by unfold Func.isWrapper; first | (rw [if_pos (by decide +kernel)]; kernel_rfl) | (rw [if_neg (by decide +kernel)]; exact ⟨rfl, rfl⟩))
    (fun os started H enc _ => fnExactMiller_lifted os started H enc)

theorem fnExactMiller_holds : Rows.FnExactMillerSaid := fnExactMiller_over
#print axioms fnExactMiller_holds
end Go.Proofs.Ytckhbflolccinaa
