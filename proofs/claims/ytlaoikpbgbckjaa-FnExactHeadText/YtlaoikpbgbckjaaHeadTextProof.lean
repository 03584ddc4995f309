/-
  For every head the program's HeadText answers as its model in the specification: the law FnExactHeadText answers true and writes into no argument.
-/
import Derived.Test.YtlaoikpbgbckjaaRows
import Derived.Test.YtlaoikpbgbckjaaHeadLawsP
import Derived.Lib.SmallJoins
import Derived.ProofKit
import Derived.OpenShut
import Derived.ShutString
import Derived.ChangeOld
import Derived.Below
import Derived.Deep.DeepHandedRow
import Derived.Lib.LaidTab
import Derived.Lay
import Derived.MakeChecks
namespace Go.Proofs.Ytlaoikpbgbckjaa
open Go.ChangeShapes Go.WideShapes Go.ChangeAt Go.RowKit
open Go.ChangeMaps (open_string shut_string)
open Go.Joins
set_option linter.unusedVariables false

theorem fnExactHeadText_own : ownKnob Try.prog.godebug = none := by kernel_rfl

set_option maxRecDepth 100000 in
theorem fnExactHeadText_lifted (os : Os) (started : os.Started) (H : Type) (enc : TypeId × Value → H) :
    ReturnsInHanded {} Try.checked os 4 .any (Rows.fnExactHeadTextSpec.pre6 enc Try.prog Try.f4 Rows.fnExactHeadTextRow.domain false) (Rows.fnExactHeadTextSpec.post enc Try.prog Try.f4 false true false false) := by
  refine returnsInHanded_of_change (C := Try.checked) fnExactHeadText_own started (by kernel_rfl) Try.func4
    (ChangeSpec.witness6 (enc := enc) (C := Try.checked) false ⟨#[], #[.agg #[.int .i64 0, .string ByteArray.empty, .string ByteArray.empty, .string ByteArray.empty]], []⟩ 8 (by kernel_rfl) (by kernel_rfl) (by kernel_rfl) (by kernel_rfl)) ?_
  intro W base args ds gs before hval0 hW hcnd _
  have hval : ∀ (j : Nat) t v, Try.f4.params[j]? = some t → args[j]? = some v → Value.okWide Try.prog W .any base t v := hval0
  have hW' := hW
  obtain ⟨p, q, hA0, hV, rfl, hfz, hnd⟩ := hW
  have hA : DataW.TrodAll enc Try.prog W 0 (fun _ => true) true Try.f4.params.toList args.toList ds p := hA0
  rw [Try.params4] at hA hval
  obtain ⟨v0, vs0, d0, ds0, p0, q0, hargs, rfl, rfl, h0, r0⟩ := trodAll_cons hA
  obtain ⟨rfl, rfl, rfl⟩ := trodAll_nil r0
  obtain rfl : args = #[v0] := by cases args; simp_all
  obtain ⟨rfl, rfl⟩ := trodVars_none hV
  obtain ⟨c00, c01, c02, c03, y00, y01, y02, y03, m0, rfl, rfl, rfl, hy00, hy01, hy02, hy03⟩ := open_agg4 Try.underlying23 (by kernel_rfl) (show Try.prog.cellsOf 23 = 4 by kernel_rfl) (hval 0 23 v0 rfl rfl) h0
  obtain ⟨a00, e00, rfl, w00⟩ := DataW.trod_int Try.underlying3 hy00
  obtain ⟨a01, e01, rfl, w01⟩ := DataW.trod_string Try.underlying9 hy01
  obtain ⟨a02, e02, rfl, w02⟩ := DataW.trod_string Try.underlying9 hy02
  obtain ⟨a03, e03, rfl, w03⟩ := DataW.trod_string Try.underlying9 hy03
  simp at e00 e01 e02 e03
  subst e00 e01 e02 e03
  have rd0 : ∀ (W' : World) (sp : Nat → Bool), DataW.Trod enc Try.prog W' 0 sp true 23 (.agg #[.int .i64 a00, .string a01, .string a02, .string a03]) (.agg [.lit (.int .i64 a00), .lit (.string a01.data.toList), .lit (.string a02.data.toList), .lit (.string a03.data.toList)]) [] := fun W' sp =>
    shut_agg4 (y0 := (.lit (.int .i64 a00), [])) (y1 := (.lit (.string a01.data.toList), [])) (y2 := (.lit (.string a02.data.toList), [])) (y3 := (.lit (.string a03.data.toList), [])) Try.underlying23 (by kernel_rfl) (show Try.prog.cellsOf 23 = 4 by kernel_rfl) ⟨1, by simp [DataW.trod, Try.underlying3, w00]⟩ ⟨1, by simp [DataW.trod, Try.underlying9, w01]⟩ ⟨1, by simp [DataW.trod, Try.underlying9, w02]⟩ ⟨1, by simp [DataW.trod, Try.underlying9, w03]⟩
  have hl0 : HLen (a00, a01, a02, a03) := ⟨by unfold maxLen at w01; exact w01, by unfold maxLen at w02; exact w02, by unfold maxLen at w03; exact w03⟩
  clear hA0 hval0
  simp only [List.append_nil] at hW'
  refine (lawHeadText (a00, a01, a02, a03) hl0 W).mono fun e W' ⟨he, bel⟩ => ?_
  subst he
  exact ⟨_, rfl, _, _, _, [], _, [], hW', trodAll_mk1 (shut_bool Try.underlying4 _), (trodAll_cons_mk (rd0 _ _) trodAll_mk0), rfl, bel.frame _, fun h => by cases h⟩

theorem fnExactHeadText_over : Rows.fnExactHeadTextRow.holds Try.pinned (OpenSpec.ofChange Rows.fnExactHeadTextSpec) :=
  OpenClaim.holds_of_wide 4 Try.f4 rfl rfl rfl rfl rfl rfl rfl ⟨rfl, rfl, rfl, rfl, rfl⟩ rfl rfl rfl rfl rfl (by kernel_rfl) Try.func4 (by kernel_rfl)
    (of_decide_eq_true (by kernel_rfl)) (by unfold Func.isWrapper; first | (rw [if_pos (by decide +kernel)]; kernel_rfl) | (rw [if_neg (by decide +kernel)]; exact ⟨rfl, rfl⟩))
    (fun os started H enc _ => fnExactHeadText_lifted os started H enc)

theorem fnExactHeadText_holds : Rows.FnExactHeadTextSaid := fnExactHeadText_over
#print axioms fnExactHeadText_holds
end Go.Proofs.Ytlaoikpbgbckjaa
