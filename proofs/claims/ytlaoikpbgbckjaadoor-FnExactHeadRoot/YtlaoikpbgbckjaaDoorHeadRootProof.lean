/-
  For every head the program's HeadRoot answers as its model in the specification: the law FnExactHeadRoot answers true, writes into no argument and lets the listed table of the rounds stand (tied card; condition: the table impl.roundWords is as the program lays it at its start).
-/
import Derived.Test.YtlaoikpbgbckjaaDoorCards
import Derived.Test.YtlaoikpbgbckjaaDoorTie
import Derived.Test.YtlaoikpbgbckjaaDoorHeadLaws
import Derived.Test.YtlaoikpbgbckjaaDoorJoined53
import Derived.Test.YtlaoikpbgbckjaaDoorJoined53
import Derived.Lib.SmallJoins
import Derived.ProofKit
import Derived.OpenShut
import Derived.ShutString
import Derived.ChangeOld
import Derived.Below
import Derived.Deep.DeepHandedRow
import Derived.Lib.LaidTab
import Derived.Lay
import Derived.MakeChecks
namespace Go.Proofs.YtlaoikpbgbckjaaDoor
open Go.ChangeShapes Go.WideShapes Go.ChangeAt Go.RowKit
open Go.ChangeMaps (open_string shut_string)
open Go.Joins
set_option linter.unusedVariables false

theorem fnExactHeadRoot_own : ownKnob Tryd.prog.godebug = none := by kernel_rfl

set_option maxRecDepth 100000 in
theorem fnExactHeadRoot_contract (H : Type) (enc : TypeId × Value → H) (W : World) (base : Nat) (args : Array Value) (ds gs : List (DataW H)) (before : List MemPlace)
    (hval : ∀ (j : Nat) t v, Tryd.f4.params[j]? = some t → args[j]? = some v → Value.okWide Tryd.prog W .any base t v)
    (hW : DataW.Whole enc Tryd.prog Tryd.f4.params.toList Rows.fnExactHeadRootSpec.vars false W args.toList ds gs before) (hL : laidMetH Tryd.prog Rows.fnExactHeadRootRow.laid W) :
    Calls Tryd.prog 4 args W fun e W' => ∃ v, e = .returned v ∧ Rows.fnExactHeadRootSpec.post enc Tryd.prog Tryd.f4 false true false false W args v W' := by
  have hW' := hW
  obtain ⟨p, q, hA0, hV, rfl, hfz, hnd⟩ := hW
  have hA : DataW.TrodAll enc Tryd.prog W 0 (fun _ => true) true Tryd.f4.params.toList args.toList ds p := hA0
  rw [Tryd.params4] at hA hval
  obtain ⟨v0, vs0, d0, ds0, p0, q0, hargs, rfl, rfl, h0, r0⟩ := trodAll_cons hA
  obtain ⟨rfl, rfl, rfl⟩ := trodAll_nil r0
  obtain rfl : args = #[v0] := by cases args; simp_all
  have hVars := hV
  obtain ⟨g0, gs0, z0, rfl, hV0⟩ := trodVars_step hV
  obtain ⟨rfl, _⟩ := trodVars_none hV0
  obtain ⟨c00, c01, c02, c03, y00, y01, y02, y03, m0, rfl, rfl, rfl, hy00, hy01, hy02, hy03⟩ := open_agg4 Tryd.underlying39 (by kernel_rfl) (show Tryd.prog.cellsOf 39 = 4 by kernel_rfl) (hval 0 39 v0 rfl rfl) h0
  obtain ⟨a00, e00, rfl, w00⟩ := DataW.trod_int Tryd.underlying3 hy00
  obtain ⟨a01, e01, rfl, w01⟩ := DataW.trod_string Tryd.underlying9 hy01
  obtain ⟨a02, e02, rfl, w02⟩ := DataW.trod_string Tryd.underlying9 hy02
  obtain ⟨a03, e03, rfl, w03⟩ := DataW.trod_string Tryd.underlying9 hy03
  simp at e00 e01 e02 e03
  subst e00 e01 e02 e03
  have rd0 : ∀ (W' : World) (sp : Nat → Bool), DataW.Trod enc Tryd.prog W' 0 sp true 39 (.agg #[.int .i64 a00, .string a01, .string a02, .string a03]) (.agg [.lit (.int .i64 a00), .lit (.string a01.data.toList), .lit (.string a02.data.toList), .lit (.string a03.data.toList)]) [] := fun W' sp =>
    shut_agg4 (y0 := (.lit (.int .i64 a00), [])) (y1 := (.lit (.string a01.data.toList), [])) (y2 := (.lit (.string a02.data.toList), [])) (y3 := (.lit (.string a03.data.toList), [])) Tryd.underlying39 (by kernel_rfl) (show Tryd.prog.cellsOf 39 = 4 by kernel_rfl) ⟨1, by simp [DataW.trod, Tryd.underlying3, w00]⟩ ⟨1, by simp [DataW.trod, Tryd.underlying9, w01]⟩ ⟨1, by simp [DataW.trod, Tryd.underlying9, w02]⟩ ⟨1, by simp [DataW.trod, Tryd.underlying9, w03]⟩
  have hl0 : HLen (a00, a01, a02, a03) := ⟨by unfold maxLen at w01; exact w01, by unfold maxLen at w02; exact w02, by unfold maxLen at w03; exact w03⟩
  clear hA0
  simp only [List.append_nil] at hW'
  refine (lawHeadRoot (a00, a01, a02, a03) hl0 W (fnExactHeadRoot_tab hL)).mono fun e W' ⟨he, bel⟩ => ?_
  subst he
  exact ⟨_, rfl, _, _, _, [], _, _, hW', trodAll_mk1 (shut_bool Tryd.underlying4 _), (trodAll_cons_mk (rd0 _ _) trodAll_mk0), vars_below (show laidOutB Tryd.prog = true by kernel_rfl) bel (show varsOk Tryd.prog Rows.fnExactHeadRootSpec.vars = true by kernel_rfl) hVars, bel.frame _, fun h => by cases h⟩

set_option maxRecDepth 100000 in
theorem fnExactHeadRoot_lifted (os : Os) (started : os.Started) (H : Type) (enc : TypeId × Value → H) (F : Stop.Interp) :
    ReturnsInHanded {} Tryd.checked os 4 .any ((OpenSpec.ofChange Rows.fnExactHeadRootSpec).preRow enc Tryd.prog Tryd.f4 Rows.fnExactHeadRootRow.domain false Rows.fnExactHeadRootRow.laid) (((OpenSpec.ofChange Rows.fnExactHeadRootSpec).at F).post enc Tryd.prog Tryd.f4 false true false false) := by
  have hx : DataW.whole enc Tryd.prog ((World.laidAll Tryd.prog os Rows.fnExactHeadRootRow.laid).forCall (fun _ _ => 0) ⟨#[], #[.agg #[.int .i64 0, .string ByteArray.empty, .string ByteArray.empty, .string ByteArray.empty]], []⟩).memory Tryd.f4.params.toList Rows.fnExactHeadRootSpec.vars false #[(Value.agg #[Value.int .i64 0, Value.string ByteArray.empty, .string ByteArray.empty, .string ByteArray.empty])].toList 8 = some ([.agg [.lit (.int .i64 0), .lit (.string []), .lit (.string []), .lit (.string [])]], [Rows.laid_loop_example_g00321_impl_roundWords], MemPlace.row ⟨1, 0, none⟩ 24) := by kernel_rfl
  refine returnsInHanded_of_row (C := Tryd.checked) (s := OpenSpec.ofChange Rows.fnExactHeadRootSpec) fnExactHeadRoot_own started (by kernel_rfl) Tryd.func4
    (witness_row_at (enc := enc) (C := Tryd.checked) false (World.laidAll Tryd.prog os Rows.fnExactHeadRootRow.laid) #[.agg #[.int .i64 0, .string ByteArray.empty, .string ByteArray.empty, .string ByteArray.empty]] (World.laidAll_os _ _ _) (by kernel_rfl) (by kernel_rfl) (by kernel_rfl)
      (OpenSpec.preRow_of_cond 8 hx (by kernel_rfl) (fun k hk => by cases hk) (by kernel_rfl) (by first | exact laidMet_laidAll _ (by kernel_rfl) (by kernel_rfl) | (rw [MakeChecks.laidMetH_plain _ _ _ (by kernel_rfl)]; exact laidMet_laidAll _ (by kernel_rfl) (by kernel_rfl))))) ?_
  intro W base args ds gs before hval hW _ _ _ hL _ _
  exact fnExactHeadRoot_contract H enc W base args ds gs before hval hW hL

theorem fnExactHeadRoot_said : Rows.FnExactHeadRootSaid :=
  OpenClaim.holds_of_cond 4 Tryd.f4 rfl rfl rfl rfl rfl rfl rfl ⟨rfl, rfl, rfl, rfl, rfl⟩ rfl rfl rfl rfl rfl (by kernel_rfl) Tryd.func4 (by kernel_rfl)
    (of_decide_eq_true (by kernel_rfl)) (by unfold Func.isWrapper; first | (rw [if_pos (by decide +kernel)]; kernel_rfl) | (rw [if_neg (by decide +kernel)]; exact ⟨rfl, rfl⟩))
    (fun os started H enc _ F => by rw [OpenClaim.pre_eq_preRow]; exact fnExactHeadRoot_lifted os started H enc F)

theorem fnExactHeadRoot_plain (f : FuncId) (fn : Func) (hf : Tryd.pinned.checked.prog.funcNamed "loop.example/g00321/laws.FnExactHeadRoot" = some f) (hfn : Tryd.pinned.checked.prog.funcs[f]? = some fn) :
    false = Tryd.pinned.checked.prog.looks [] ∧ ∀ (j : Nat) t, fn.params[j]? = some t → Tryd.pinned.checked.prog.wantsStandIn t = false := by
  obtain rfl : f = 4 := Option.some.inj ((show Tryd.prog.funcNamed "loop.example/g00321/laws.FnExactHeadRoot" = some 4 by kernel_rfl).symm.trans hf) |>.symm
  obtain rfl : fn = Tryd.f4 := (Option.some.inj (Tryd.func4.symm.trans hfn)).symm
  refine ⟨by kernel_rfl, fun j t ht => ?_⟩
  rw [Tryd.params4] at ht
  obtain rfl : t = 39 := by simpa using Array.mem_of_getElem? ht
  exact (show Tryd.prog.wantsStandIn 39 = false by kernel_rfl)

theorem fnExactHeadRoot_card : Rows.FnExactHeadRootCardSaid :=
  Claim7.holds_tied_plain_at .later [] _ _ _ _ fnExactHeadRoot_said (fun _ h => by cases h) (by kernel_rfl) (fun _ h => by cases h) fnExactHeadRoot_row_tie rfl ⟨rfl, rfl⟩ (by kernel_rfl) rfl fnExactHeadRoot_plain (by kernel_rfl)
#print axioms fnExactHeadRoot_card
end Go.Proofs.YtlaoikpbgbckjaaDoor
