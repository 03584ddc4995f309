/-
  For every list of leaves the program's RootOf answers as its model in the specification: the law FnExactRootOf answers true, writes into no argument and lets the listed table of the rounds stand (tied card; condition: the table impl.roundWords is as the program lays it at its start).
-/
import Derived.Test.YtkiljlmihoaaaaaDoorCards
import Derived.Test.YtkiljlmihoaaaaaDoorTie
import Derived.Test.YtkiljlmihoaaaaaDoorTreeLaws
import Derived.Test.YtkiljlmihoaaaaaDoorTabOf
import Derived.Test.YtkiljlmihoaaaaaDoorVars
import Derived.Test.YtkiljlmihoaaaaaDoorStrsArg
import Derived.ProofKit
import Derived.OpenShut
import Derived.ShutString
import Derived.ChangeOld
import Derived.Below
import Derived.Deep.DeepHandedRow
import Derived.Lib.LaidTab
import Derived.Lay
import Derived.MakeChecks
namespace Go.Proofs.YtkiljlmihoaaaaaDoor
open Go.ChangeShapes Go.WideShapes Go.ChangeAt Go.RowKit
open Go.ChangeMaps (open_string shut_string)
set_option linter.unusedVariables false

theorem fnExactRootOf_own : ownKnob Tryd.prog.godebug = none := by kernel_rfl

set_option maxRecDepth 100000 in
theorem fnExactRootOf_contract (H : Type) (enc : TypeId × Value → H) (W : World) (base : Nat) (args : Array Value) (ds gs : List (DataW H)) (before : List MemPlace)
    (hval : ∀ (j : Nat) t v, Tryd.f5.params[j]? = some t → args[j]? = some v → Value.okWide Tryd.prog W .any base t v)
    (hW : DataW.Whole enc Tryd.prog Tryd.f5.params.toList Rows.fnExactRootOfSpec.vars false W args.toList ds gs before) (hL : laidMetH Tryd.prog Rows.fnExactRootOfRow.laid W) :
    Calls Tryd.prog 5 args W fun e W' => ∃ v, e = .returned v ∧ Rows.fnExactRootOfSpec.post enc Tryd.prog Tryd.f5 false true false false W args v W' := by
  have hW' := hW
  obtain ⟨p, q, hA0, hV, rfl, hfz, hnd⟩ := hW
  have hA : DataW.TrodAll enc Tryd.prog W 0 (fun _ => true) true Tryd.f5.params.toList args.toList ds p := hA0
  rw [Tryd.params5] at hA hval
  obtain ⟨v0, vs0, d0, ds0, p0, q0, hargs, rfl, rfl, h0, r0⟩ := trodAll_cons hA
  obtain ⟨rfl, rfl, rfl⟩ := trodAll_nil r0
  obtain rfl : args = #[v0] := by cases args; simp_all
  have hVars := hV
  obtain ⟨g0, gs0, z0, rfl, hV0⟩ := trodVars_step hV
  obtain ⟨rfl, _⟩ := trodVars_none hV0
  obtain ⟨a0, len0, cap0, rfl⟩ := okWide_slice Tryd.underlying24 (hval 0 24 v0 rfl rfl)
  have k0 := h0
  have lt0 : ∀ x ∈ p0, x.block < W.heap.size := by obtain ⟨m, hm⟩ := k0; exact DataW.trod_lt m _ _ _ hm
  obtain ⟨f0, arg0, hz0, hm0⟩ : ∃ f, StrsAt W a0 len0 W.heap.size f ∧ (∀ j, j < len0 → (f j).size ≤ 9223372036854775807) ∧ len0 ≤ 9223372036854775807 := by obtain ⟨fuel, hf⟩ := h0; exact strsAt_of hf
  clear hA0
  simp only [List.append_nil] at hW'
  refine (lawRootOf a0 len0 cap0 hm0 f0 hz0 W arg0 (fnExactRootOf_tab hL)).mono fun e W' ⟨he, bel⟩ => ?_
  subst he
  exact ⟨_, rfl, _, _, _, [], _, _, hW', trodAll_mk1 (shut_bool Tryd.underlying4 _), (trodAll_cons_mk (Below.trod (show laidOutB Tryd.prog = true by kernel_rfl) (by kernel_rfl) (of_decide_eq_true (by kernel_rfl)) k0 bel lt0) trodAll_mk0), vars_below (show laidOutB Tryd.prog = true by kernel_rfl) bel (show varsOk Tryd.prog Rows.fnExactRootOfSpec.vars = true by kernel_rfl) hVars, bel.frame _, fun h => by cases h⟩

set_option maxRecDepth 100000 in
theorem fnExactRootOf_lifted (os : Os) (started : os.Started) (H : Type) (enc : TypeId × Value → H) (F : Stop.Interp) :
    ReturnsInHanded {} Tryd.checked os 5 .any ((OpenSpec.ofChange Rows.fnExactRootOfSpec).preRow enc Tryd.prog Tryd.f5 Rows.fnExactRootOfRow.domain false Rows.fnExactRootOfRow.laid) (((OpenSpec.ofChange Rows.fnExactRootOfSpec).at F).post enc Tryd.prog Tryd.f5 false true false false) := by
  have hx : DataW.whole enc Tryd.prog ((World.laidAll Tryd.prog os Rows.fnExactRootOfRow.laid).forCall (fun _ _ => 0) ⟨#[], #[.slice none 0 0], []⟩).memory Tryd.f5.params.toList Rows.fnExactRootOfSpec.vars false #[(Value.slice none 0 0)].toList 8 = some ([.nil], [Rows.laid_loop_example_g00321_impl_roundWords], MemPlace.row ⟨0, 0, none⟩ 24) := by kernel_rfl
  refine returnsInHanded_of_row (C := Tryd.checked) (s := OpenSpec.ofChange Rows.fnExactRootOfSpec) fnExactRootOf_own started (by kernel_rfl) Tryd.func5
    (witness_row_at (enc := enc) (C := Tryd.checked) false (World.laidAll Tryd.prog os Rows.fnExactRootOfRow.laid) #[.slice none 0 0] (World.laidAll_os _ _ _) (by kernel_rfl) (by kernel_rfl) (by kernel_rfl)
      (OpenSpec.preRow_of_cond 8 hx (by kernel_rfl) (fun k hk => by cases hk) (by kernel_rfl) (by first | exact laidMet_laidAll _ (by kernel_rfl) (by kernel_rfl) | (rw [MakeChecks.laidMetH_plain _ _ _ (by kernel_rfl)]; exact laidMet_laidAll _ (by kernel_rfl) (by kernel_rfl))))) ?_
  intro W base args ds gs before hval hW _ _ _ hL _ _
  exact fnExactRootOf_contract H enc W base args ds gs before hval hW hL

theorem fnExactRootOf_said : Rows.FnExactRootOfSaid :=
  OpenClaim.holds_of_cond 5 Tryd.f5 rfl rfl rfl rfl rfl rfl rfl ⟨rfl, rfl, rfl, rfl, rfl⟩ rfl rfl rfl rfl rfl (by kernel_rfl) Tryd.func5 (by kernel_rfl)
    (of_decide_eq_true (by kernel_rfl)) (by unfold Func.isWrapper; first | (rw [if_pos (by decide +kernel)]; kernel_rfl) | (rw [if_neg (by decide +kernel)]; exact ⟨rfl, rfl⟩))
    (fun os started H enc _ F => by rw [OpenClaim.pre_eq_preRow]; exact fnExactRootOf_lifted os started H enc F)

theorem fnExactRootOf_plain (f : FuncId) (fn : Func) (hf : Tryd.pinned.checked.prog.funcNamed "loop.example/g00321/laws.FnExactRootOf" = some f) (hfn : Tryd.pinned.checked.prog.funcs[f]? = some fn) :
    false = Tryd.pinned.checked.prog.looks [] ∧ ∀ (j : Nat) t, fn.params[j]? = some t → Tryd.pinned.checked.prog.wantsStandIn t = false := by
  obtain rfl : f = 5 := Option.some.inj ((show Tryd.prog.funcNamed "loop.example/g00321/laws.FnExactRootOf" = some 5 by kernel_rfl).symm.trans hf) |>.symm
  obtain rfl : fn = Tryd.f5 := (Option.some.inj (Tryd.func5.symm.trans hfn)).symm
  refine ⟨by kernel_rfl, fun j t ht => ?_⟩
  rw [Tryd.params5] at ht
  obtain rfl : t = 24 := by simpa using Array.mem_of_getElem? ht
  exact (show Tryd.prog.wantsStandIn 24 = false by kernel_rfl)

theorem fnExactRootOf_card : Rows.FnExactRootOfCardSaid :=
  Claim7.holds_tied_plain_at .later [] _ _ _ _ fnExactRootOf_said (fun _ h => by cases h) (by kernel_rfl) (fun _ h => by cases h) fnExactRootOf_row_tie rfl ⟨rfl, rfl⟩ (by kernel_rfl) rfl fnExactRootOf_plain (by kernel_rfl)
#print axioms fnExactRootOf_card
end Go.Proofs.YtkiljlmihoaaaaaDoor
