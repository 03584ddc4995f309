/-
  No cell of these rows narrows 'for every input' (looked for: loops, veiled, ifaces, maps, wideKeys, modest, calm, conditions, laid).
  DERIVED. THE GIVEN ROWS OF THIS SEAT. 6 by the template 'for every input the law returns true; each argument reads behind the call as it read before'; 0 by the template 'total and deterministic' (their statements: YtdeahlljllelaaaTotals.lean).
  GIVEN WITH THE SEED: the statements are not yours to turn. If you find one false, say at which input.
  Laid BY PROGRAM, IN A SANDBOX (cutbox-rows.mjs): the forced cells as the released guide's own fill.sh prints them over the translation 87bdc8608c3c3d1b… (all of the seat's roots in one cut). By AI agents, Wed Nov 11 2026. No macro, syntax, notation, axiom, sorry.
-/
import Derived.Test.YtdeahlljllelaaaChecked
import GoSem.Claim
import GoSem.ClaimJoined
import GoSem.ClaimMapViews
import Derived.JoinedTies
import Derived.KernelRfl
namespace Go.Proofs.Ytdeahlljllelaaa
/- THE CELL 'sum', in the pinned program and in every row, IS THE sha256 OF THE DUMP (.gsa) THAT YtdeahlljllelaaaProg.lean LOADS. Nothing in Lean hashes anything: it is a label: what it is worth is what the hold of that sum in a sandbox is worth. -/
noncomputable def Try.pinned : Pinned := { name := "ytdeahlljllelaaa", sum := "87bdc8608c3c3d1b8298f2d4aee6e5da3c26c99cf9c31a1b4865cf4f5717ed4a", checked := Try.checked }
namespace Rows
def none {H : Type} : Left H := { results := [], args := [] }

/-- 'laws.FnGroup': WHATEVER THE INPUT: true; the input reads as it did. -/
def fnGroupSpec : ChangeSpec := { name := "fnGroup", fn := fun _ => fun
  | [d] => { results := [.lit (.bool true)], args := [d] }
  | _ => none }
def fnGroupRow : OpenClaim := { program := "ytdeahlljllelaaa", sum := "87bdc8608c3c3d1b8298f2d4aee6e5da3c26c99cf9c31a1b4865cf4f5717ed4a", func := "loop.example/g00321/laws.FnGroup", spec := "fnGroup", apart := false }
def FnGroupSaid : Prop := fnGroupRow.holds Try.pinned (OpenSpec.ofChange fnGroupSpec)

/-- ITS FALSE NEIGHBOUR: 'it returns false'. Refute it at one input. -/
def fnGroupWrong : ChangeSpec := { name := "fnGroup", fn := fun _ => fun
  | [d] => { results := [.lit (.bool false)], args := [d] }
  | _ => none }
def FnGroupWrongFalsely : Prop := fnGroupRow.holds Try.pinned (OpenSpec.ofChange fnGroupWrong)

/-- 'laws.FnPoints': WHATEVER THE INPUT: true; the input reads as it did. -/
def fnPointsSpec : ChangeSpec := { name := "fnPoints", fn := fun _ => fun
  | [d] => { results := [.lit (.bool true)], args := [d] }
  | _ => none }
def fnPointsRow : OpenClaim := { program := "ytdeahlljllelaaa", sum := "87bdc8608c3c3d1b8298f2d4aee6e5da3c26c99cf9c31a1b4865cf4f5717ed4a", func := "loop.example/g00321/laws.FnPoints", spec := "fnPoints", apart := false }
def FnPointsSaid : Prop := fnPointsRow.holds Try.pinned (OpenSpec.ofChange fnPointsSpec)

/-- ITS FALSE NEIGHBOUR: 'it returns false'. Refute it at one input. -/
def fnPointsWrong : ChangeSpec := { name := "fnPoints", fn := fun _ => fun
  | [d] => { results := [.lit (.bool false)], args := [d] }
  | _ => none }
def FnPointsWrongFalsely : Prop := fnPointsRow.holds Try.pinned (OpenSpec.ofChange fnPointsWrong)

/-- 'laws.FnExactPointOk': WHATEVER THE INPUT: true; the input reads as it did. -/
def fnExactPointOkSpec : ChangeSpec := { name := "fnExactPointOk", fn := fun _ => fun
  | [d] => { results := [.lit (.bool true)], args := [d] }
  | _ => none }
def fnExactPointOkRow : OpenClaim := { program := "ytdeahlljllelaaa", sum := "87bdc8608c3c3d1b8298f2d4aee6e5da3c26c99cf9c31a1b4865cf4f5717ed4a", func := "loop.example/g00321/laws.FnExactPointOk", spec := "fnExactPointOk", apart := false }
def FnExactPointOkSaid : Prop := fnExactPointOkRow.holds Try.pinned (OpenSpec.ofChange fnExactPointOkSpec)

/-- ITS FALSE NEIGHBOUR: 'it returns false'. Refute it at one input. -/
def fnExactPointOkWrong : ChangeSpec := { name := "fnExactPointOk", fn := fun _ => fun
  | [d] => { results := [.lit (.bool false)], args := [d] }
  | _ => none }
def FnExactPointOkWrongFalsely : Prop := fnExactPointOkRow.holds Try.pinned (OpenSpec.ofChange fnExactPointOkWrong)

/-- 'laws.FnExactPointNeg': WHATEVER THE INPUT: true; the input reads as it did. -/
def fnExactPointNegSpec : ChangeSpec := { name := "fnExactPointNeg", fn := fun _ => fun
  | [d] => { results := [.lit (.bool true)], args := [d] }
  | _ => none }
def fnExactPointNegRow : OpenClaim := { program := "ytdeahlljllelaaa", sum := "87bdc8608c3c3d1b8298f2d4aee6e5da3c26c99cf9c31a1b4865cf4f5717ed4a", func := "loop.example/g00321/laws.FnExactPointNeg", spec := "fnExactPointNeg", apart := false }
def FnExactPointNegSaid : Prop := fnExactPointNegRow.holds Try.pinned (OpenSpec.ofChange fnExactPointNegSpec)

/-- ITS FALSE NEIGHBOUR: 'it returns false'. Refute it at one input. -/
def fnExactPointNegWrong : ChangeSpec := { name := "fnExactPointNeg", fn := fun _ => fun
  | [d] => { results := [.lit (.bool false)], args := [d] }
  | _ => none }
def FnExactPointNegWrongFalsely : Prop := fnExactPointNegRow.holds Try.pinned (OpenSpec.ofChange fnExactPointNegWrong)

/-- 'laws.FnExactPointAdd': WHATEVER THE INPUT: true; the input reads as it did. -/
def fnExactPointAddSpec : ChangeSpec := { name := "fnExactPointAdd", fn := fun _ => fun
  | [d1, d2] => { results := [.lit (.bool true)], args := [d1, d2] }
  | _ => none }
def fnExactPointAddRow : OpenClaim := { program := "ytdeahlljllelaaa", sum := "87bdc8608c3c3d1b8298f2d4aee6e5da3c26c99cf9c31a1b4865cf4f5717ed4a", func := "loop.example/g00321/laws.FnExactPointAdd", spec := "fnExactPointAdd", apart := false }
def FnExactPointAddSaid : Prop := fnExactPointAddRow.holds Try.pinned (OpenSpec.ofChange fnExactPointAddSpec)

/-- ITS FALSE NEIGHBOUR: 'it returns false'. Refute it at one input. -/
def fnExactPointAddWrong : ChangeSpec := { name := "fnExactPointAdd", fn := fun _ => fun
  | [d1, d2] => { results := [.lit (.bool false)], args := [d1, d2] }
  | _ => none }
def FnExactPointAddWrongFalsely : Prop := fnExactPointAddRow.holds Try.pinned (OpenSpec.ofChange fnExactPointAddWrong)

/-- 'laws.FnExactPointTimes': WHATEVER THE INPUT: true; the input reads as it did. -/
def fnExactPointTimesSpec : ChangeSpec := { name := "fnExactPointTimes", fn := fun _ => fun
  | [d1, d2] => { results := [.lit (.bool true)], args := [d1, d2] }
  | _ => none }
def fnExactPointTimesRow : OpenClaim := { program := "ytdeahlljllelaaa", sum := "87bdc8608c3c3d1b8298f2d4aee6e5da3c26c99cf9c31a1b4865cf4f5717ed4a", func := "loop.example/g00321/laws.FnExactPointTimes", spec := "fnExactPointTimes", apart := false }
def FnExactPointTimesSaid : Prop := fnExactPointTimesRow.holds Try.pinned (OpenSpec.ofChange fnExactPointTimesSpec)

/-- ITS FALSE NEIGHBOUR: 'it returns false'. Refute it at one input. -/
def fnExactPointTimesWrong : ChangeSpec := { name := "fnExactPointTimes", fn := fun _ => fun
  | [d1, d2] => { results := [.lit (.bool false)], args := [d1, d2] }
  | _ => none }
def FnExactPointTimesWrongFalsely : Prop := fnExactPointTimesRow.holds Try.pinned (OpenSpec.ofChange fnExactPointTimesWrong)

/- THE SECOND FORM. 'bulk': how many values and letters a reading holds, each counted each time it is reached (what is shared counts as often as it is met; a slice's spare places count too). A statement '..UptoSaid' is the law's where the arguments, and the package variables that the reading takes, are together of bulk at most 1048576: NARROWER than '..Said'. Prove '..Said' where nothing that the law and all that it calls make is longer than what came in: it says more and counts as full. Else prove '..UptoSaid'. A law counts once. -/
mutual
def uptoBulk {H : Type} : DataW H → Nat
  | .lit (.string bytes) => bytes.length + 1
  | .lit _ => 1
  | .nil => 1
  | .ptr d => uptoBulk d + 1
  | .slice elems spare => uptoBulkAll elems + uptoBulkAll spare + 1
  | .agg parts => uptoBulkAll parts + 1
  | .iface _ d => uptoBulk d + 1
  | .map entries => uptoBulkEntries entries + 1
  | .held _ => 1
def uptoBulkAll {H : Type} : List (DataW H) → Nat
  | [] => 0
  | d :: r => uptoBulk d + uptoBulkAll r
def uptoBulkEntries {H : Type} : List (Lit × DataW H) → Nat
  | [] => 0
  | x :: r => uptoBulkEntry x + uptoBulkEntries r
def uptoBulkEntry {H : Type} : Lit × DataW H → Nat
  | (.string bytes, d) => bytes.length + uptoBulk d + 1
  | (_, d) => uptoBulk d + 1
 end
def uptoSmall : (H : Type) → List (DataW H) → Bool := fun _ ds => decide (uptoBulkAll ds ≤ 1048576)
def OpenSpec.upto (s : _root_.Go.ChangeSpec) : _root_.Go.OpenSpec := { _root_.Go.OpenSpec.ofChange s with cond := some uptoSmall }

/-- 'laws.FnGroup', WHERE WHAT IT READS IS OF BULK AT MOST 1048576: true; the input reads as it did. -/
def fnGroupUptoRow : OpenClaim := { program := "ytdeahlljllelaaa", sum := "87bdc8608c3c3d1b8298f2d4aee6e5da3c26c99cf9c31a1b4865cf4f5717ed4a", func := "loop.example/g00321/laws.FnGroup", spec := "fnGroup", apart := false, narrowed := true }
def FnGroupUptoSaid : Prop := fnGroupUptoRow.holds Try.pinned (OpenSpec.upto fnGroupSpec)

/-- 'laws.FnPoints', WHERE WHAT IT READS IS OF BULK AT MOST 1048576: true; the input reads as it did. -/
def fnPointsUptoRow : OpenClaim := { program := "ytdeahlljllelaaa", sum := "87bdc8608c3c3d1b8298f2d4aee6e5da3c26c99cf9c31a1b4865cf4f5717ed4a", func := "loop.example/g00321/laws.FnPoints", spec := "fnPoints", apart := false, narrowed := true }
def FnPointsUptoSaid : Prop := fnPointsUptoRow.holds Try.pinned (OpenSpec.upto fnPointsSpec)

/-- 'laws.FnExactPointOk', WHERE WHAT IT READS IS OF BULK AT MOST 1048576: true; the input reads as it did. -/
def fnExactPointOkUptoRow : OpenClaim := { program := "ytdeahlljllelaaa", sum := "87bdc8608c3c3d1b8298f2d4aee6e5da3c26c99cf9c31a1b4865cf4f5717ed4a", func := "loop.example/g00321/laws.FnExactPointOk", spec := "fnExactPointOk", apart := false, narrowed := true }
def FnExactPointOkUptoSaid : Prop := fnExactPointOkUptoRow.holds Try.pinned (OpenSpec.upto fnExactPointOkSpec)

/-- 'laws.FnExactPointNeg', WHERE WHAT IT READS IS OF BULK AT MOST 1048576: true; the input reads as it did. -/
def fnExactPointNegUptoRow : OpenClaim := { program := "ytdeahlljllelaaa", sum := "87bdc8608c3c3d1b8298f2d4aee6e5da3c26c99cf9c31a1b4865cf4f5717ed4a", func := "loop.example/g00321/laws.FnExactPointNeg", spec := "fnExactPointNeg", apart := false, narrowed := true }
def FnExactPointNegUptoSaid : Prop := fnExactPointNegUptoRow.holds Try.pinned (OpenSpec.upto fnExactPointNegSpec)

/-- 'laws.FnExactPointAdd', WHERE WHAT IT READS IS OF BULK AT MOST 1048576: true; the input reads as it did. -/
def fnExactPointAddUptoRow : OpenClaim := { program := "ytdeahlljllelaaa", sum := "87bdc8608c3c3d1b8298f2d4aee6e5da3c26c99cf9c31a1b4865cf4f5717ed4a", func := "loop.example/g00321/laws.FnExactPointAdd", spec := "fnExactPointAdd", apart := false, narrowed := true }
def FnExactPointAddUptoSaid : Prop := fnExactPointAddUptoRow.holds Try.pinned (OpenSpec.upto fnExactPointAddSpec)

/-- 'laws.FnExactPointTimes', WHERE WHAT IT READS IS OF BULK AT MOST 1048576: true; the input reads as it did. -/
def fnExactPointTimesUptoRow : OpenClaim := { program := "ytdeahlljllelaaa", sum := "87bdc8608c3c3d1b8298f2d4aee6e5da3c26c99cf9c31a1b4865cf4f5717ed4a", func := "loop.example/g00321/laws.FnExactPointTimes", spec := "fnExactPointTimes", apart := false, narrowed := true }
def FnExactPointTimesUptoSaid : Prop := fnExactPointTimesUptoRow.holds Try.pinned (OpenSpec.upto fnExactPointTimesSpec)

end Rows
end Go.Proofs.Ytdeahlljllelaaa
