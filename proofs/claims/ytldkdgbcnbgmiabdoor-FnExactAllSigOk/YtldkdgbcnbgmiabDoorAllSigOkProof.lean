/-
  For every list of keys, text and signature, right or not, the program's AllSigOk answers as its model in the specification: the law FnExactAllSigOk answers true, writes into no argument and lets the listed table of the rounds stand (tied card; condition: the table impl.roundWords is as the program lays it at its start).
-/
import Derived.Test.YtldkdgbcnbgmiabDoorJoined1
import Derived.Test.YtldkdgbcnbgmiabDoorJoined1
import Derived.Test.YtldkdgbcnbgmiabDoorJoined53
import Derived.Test.YtldkdgbcnbgmiabDoorJoined53
import Derived.Test.YtldkdgbcnbgmiabDoorJoined53
import Derived.Test.YtldkdgbcnbgmiabDoorJoined53
import Derived.Lib.SmallJoins
import Derived.ProofKit
import Derived.OpenShut
import Derived.ShutString
import Derived.ChangeOld
import Derived.Below
import Derived.Deep.DeepHandedRow
import Derived.Lib.LaidTab
import Derived.Lay
import Derived.MakeChecks
namespace Go.Proofs.YtldkdgbcnbgmiabDoor
open Go.ChangeShapes Go.WideShapes Go.ChangeAt Go.RowKit
open Go.ChangeMaps (open_string shut_string)
open Go.Joins
set_option linter.unusedVariables false

theorem fnExactAllSigOk_own : ownKnob Tryd.prog.godebug = none := by kernel_rfl

set_option maxRecDepth 100000 in
theorem fnExactAllSigOk_contract (H : Type) (enc : TypeId × Value → H) (W : World) (base : Nat) (args : Array Value) (ds gs : List (DataW H)) (before : List MemPlace)
    (hval : ∀ (j : Nat) t v, Tryd.f3.params[j]? = some t → args[j]? = some v → Value.okWide Tryd.prog W .any base t v)
    (hW : DataW.Whole enc Tryd.prog Tryd.f3.params.toList Rows.fnExactAllSigOkSpec.vars false W args.toList ds gs before) (hL : laidMetH Tryd.prog Rows.fnExactAllSigOkRow.laid W) :
    Calls Tryd.prog 3 args W fun e W' => ∃ v, e = .returned v ∧ Rows.fnExactAllSigOkSpec.post enc Tryd.prog Tryd.f3 false true false false W args v W' := by
  have hW' := hW
  obtain ⟨p, q, hA0, hV, rfl, hfz, hnd⟩ := hW
  have hA : DataW.TrodAll enc Tryd.prog W 0 (fun _ => true) true Tryd.f3.params.toList args.toList ds p := hA0
  rw [Tryd.params3] at hA hval
  obtain ⟨v0, vs0, d0, ds0, p0, q0, hargs, rfl, rfl, h0, r0⟩ := trodAll_cons hA
  obtain ⟨v1, vs1, d1, ds1, p1, q1, rfl, rfl, rfl, h1, r1⟩ := trodAll_cons r0
  obtain ⟨v2, vs2, d2, ds2, p2, q2, rfl, rfl, rfl, h2, r2⟩ := trodAll_cons r1
  obtain ⟨rfl, rfl, rfl⟩ := trodAll_nil r2
  obtain rfl : args = #[v0, v1, v2] := by cases args; simp_all
  have hVars := hV
  obtain ⟨g0, gs0, z0, rfl, hV0⟩ := trodVars_step hV
  obtain ⟨rfl, _⟩ := trodVars_none hV0
  obtain ⟨a0, len0, cap0, rfl⟩ := okWide_slice Tryd.underlying22 (hval 0 22 v0 rfl rfl)
  have k0 := h0
  have lt0 : ∀ x ∈ p0, x.block < W.heap.size := by obtain ⟨m, hm⟩ := k0; exact DataW.trod_lt m _ _ _ hm
  obtain ⟨f0, arg0, hm0⟩ : ∃ f, PtsAt W a0 len0 W.heap.size f ∧ len0 ≤ 9223372036854775807 := by obtain ⟨fuel, hf⟩ := h0; exact ptsAt_of hf
  obtain ⟨a1, rfl, rfl, rfl, w1⟩ := open_string Tryd.underlying9 (hval 1 9 v1 rfl rfl) h1
  obtain ⟨c20, c21, c22, y20, y21, y22, m2, rfl, rfl, rfl, hy20, hy21, hy22⟩ := open_agg3 Tryd.underlying24 (by kernel_rfl) (show Tryd.prog.cellsOf 24 = 3 by kernel_rfl) (hval 2 24 v2 rfl rfl) h2
  obtain ⟨a20, e20, rfl, w20⟩ := DataW.trod_int Tryd.underlying3 hy20
  obtain ⟨a21, e21, rfl, w21⟩ := DataW.trod_int Tryd.underlying3 hy21
  obtain ⟨a22, e22, rfl⟩ := DataW.trod_bool Tryd.underlying4 hy22
  simp at e20 e21 e22
  subst e20 e21 e22
  have rd2 : ∀ (W' : World) (sp : Nat → Bool), DataW.Trod enc Tryd.prog W' 0 sp true 24 (.agg #[.int .i64 a20, .int .i64 a21, .bool a22]) (.agg [.lit (.int .i64 a20), .lit (.int .i64 a21), .lit (.bool a22)]) [] := fun W' sp =>
    shut_agg3 (y0 := (.lit (.int .i64 a20), [])) (y1 := (.lit (.int .i64 a21), [])) (y2 := (.lit (.bool a22), [])) Tryd.underlying24 (by kernel_rfl) (show Tryd.prog.cellsOf 24 = 3 by kernel_rfl) ⟨1, by simp [DataW.trod, Tryd.underlying3, w20]⟩ ⟨1, by simp [DataW.trod, Tryd.underlying3, w21]⟩ ⟨1, by simp [DataW.trod, Tryd.underlying4]⟩
  clear hA0
  simp only [List.append_nil] at hW'
  refine (lawAllSig a0 len0 cap0 a1 (a20, a21, a22) hm0 w1 f0 W arg0 (fnExactAllSigOk_tab hL)).mono fun e W' ⟨he, bel⟩ => ?_
  subst he
  exact ⟨_, rfl, _, _, _, [], _, _, hW', trodAll_mk1 (shut_bool Tryd.underlying4 _), (trodAll_cons_mk (Below.trod (show laidOutB Tryd.prog = true by kernel_rfl) (by kernel_rfl) (of_decide_eq_true (by kernel_rfl)) k0 bel lt0) (trodAll_cons_mk (shut_string Tryd.underlying9 w1) (trodAll_cons_mk (rd2 _ _) trodAll_mk0))), vars_below (show laidOutB Tryd.prog = true by kernel_rfl) bel (show varsOk Tryd.prog Rows.fnExactAllSigOkSpec.vars = true by kernel_rfl) hVars, bel.frame _, fun h => by cases h⟩

set_option maxRecDepth 100000 in
theorem fnExactAllSigOk_lifted (os : Os) (started : os.Started) (H : Type) (enc : TypeId × Value → H) (F : Stop.Interp) :
    ReturnsInHanded {} Tryd.checked os 3 .any ((OpenSpec.ofChange Rows.fnExactAllSigOkSpec).preRow enc Tryd.prog Tryd.f3 Rows.fnExactAllSigOkRow.domain false Rows.fnExactAllSigOkRow.laid) (((OpenSpec.ofChange Rows.fnExactAllSigOkSpec).at F).post enc Tryd.prog Tryd.f3 false true false false) := by
  have hx : DataW.whole enc Tryd.prog ((World.laidAll Tryd.prog os Rows.fnExactAllSigOkRow.laid).forCall (fun _ _ => 0) ⟨#[], #[.slice none 0 0, .string ByteArray.empty, .agg #[.int .i64 0, .int .i64 0, .bool false]], []⟩).memory Tryd.f3.params.toList Rows.fnExactAllSigOkSpec.vars false #[(Value.slice none 0 0), (Value.string ByteArray.empty), (Value.agg #[Value.int .i64 0, .int .i64 0, .bool false])].toList 8 = some ([.nil, .lit (.string []), .agg [.lit (.int .i64 0), .lit (.int .i64 0), .lit (.bool false)]], [Rows.laid_loop_example_g00321_impl_roundWords], MemPlace.row ⟨0, 0, none⟩ 24) := by kernel_rfl
  refine returnsInHanded_of_row (C := Tryd.checked) (s := OpenSpec.ofChange Rows.fnExactAllSigOkSpec) fnExactAllSigOk_own started (by kernel_rfl) Tryd.func3
    (witness_row_at (enc := enc) (C := Tryd.checked) false (World.laidAll Tryd.prog os Rows.fnExactAllSigOkRow.laid) #[.slice none 0 0, .string ByteArray.empty, .agg #[.int .i64 0, .int .i64 0, .bool false]] (World.laidAll_os _ _ _) (by kernel_rfl) (by kernel_rfl) (by kernel_rfl)
      (OpenSpec.preRow_of_cond 8 hx (by kernel_rfl) (fun k hk => by cases hk) (by kernel_rfl) (by first | exact laidMet_laidAll _ (by kernel_rfl) (by kernel_rfl) | (rw [MakeChecks.laidMetH_plain _ _ _ (by kernel_rfl)]; exact laidMet_laidAll _ (by kernel_rfl) (by kernel_rfl))))) ?_
  intro W base args ds gs before hval hW _ _ _ hL _ _
  exact fnExactAllSigOk_contract H enc W base args ds gs before hval hW hL

theorem fnExactAllSigOk_said : Rows.FnExactAllSigOkSaid :=
  OpenClaim.holds_of_cond 3 Tryd.f3 rfl rfl rfl rfl rfl rfl rfl ⟨rfl, rfl, rfl, rfl, rfl⟩ rfl rfl rfl rfl rfl (by kernel_rfl) Tryd.func3 (by kernel_rfl)
    (of_decide_eq_true (by kernel_rfl)) (by unfold Func.isWrapper; first | (rw [if_pos (by decide +kernel)]; kernel_rfl) | (rw [if_neg (by decide +kernel)]; exact ⟨rfl, rfl⟩))
    (fun os started H enc _ F => by rw [OpenClaim.pre_eq_preRow]; exact fnExactAllSigOk_lifted os started H enc F)

theorem fnExactAllSigOk_plain (f : FuncId) (fn : Func) (hf : Tryd.pinned.checked.prog.funcNamed "loop.example/g00321/laws.FnExactAllSigOk" = some f) (hfn : Tryd.pinned.checked.prog.funcs[f]? = some fn) :
    false = Tryd.pinned.checked.prog.looks [] ∧ ∀ (j : Nat) t, fn.params[j]? = some t → Tryd.pinned.checked.prog.wantsStandIn t = false := by
  obtain rfl : f = 3 := Option.some.inj ((show Tryd.prog.funcNamed "loop.example/g00321/laws.FnExactAllSigOk" = some 3 by kernel_rfl).symm.trans hf) |>.symm
  obtain rfl : fn = Tryd.f3 := (Option.some.inj (Tryd.func3.symm.trans hfn)).symm
  refine ⟨by kernel_rfl, fun j t ht => ?_⟩
  rw [Tryd.params3] at ht
  have hm : t = 22 ∨ t = 9 ∨ t = 24 := by simpa using Array.mem_of_getElem? ht
  rcases hm with rfl | rfl | rfl
  · exact (show Tryd.prog.wantsStandIn 22 = false by kernel_rfl)
  · exact (show Tryd.prog.wantsStandIn 9 = false by kernel_rfl)
  · exact (show Tryd.prog.wantsStandIn 24 = false by kernel_rfl)

theorem fnExactAllSigOk_card : Rows.FnExactAllSigOkCardSaid :=
  Claim7.holds_tied_plain_at .later [] _ _ _ _ fnExactAllSigOk_said (fun _ h => by cases h) (by kernel_rfl) (fun _ h => by cases h) fnExactAllSigOk_row_tie rfl ⟨rfl, rfl⟩ (by kernel_rfl) rfl fnExactAllSigOk_plain (by kernel_rfl)
#print axioms fnExactAllSigOk_card
end Go.Proofs.YtldkdgbcnbgmiabDoor
