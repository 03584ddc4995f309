/-
  No cell of these rows narrows 'for every input' (looked for: loops, veiled, ifaces, maps, wideKeys, modest, calm, conditions, laid).
  DERIVED. THE GIVEN ROWS OF THIS SEAT. 5 by the template 'for every input the law returns true; each argument reads behind the call as it read before'; 0 by the template 'total and deterministic' (their statements: YtdeahlljllelaabTotals.lean).
  GIVEN WITH THE SEED: the statements are not yours to turn. If you find one false, say at which input.
  Laid BY PROGRAM, IN A SANDBOX (cutbox-rows.mjs): the forced cells as the released guide's own fill.sh prints them over the translation a1cba08daeef370e… (all of the seat's roots in one cut). By AI agents, Wed Nov 11 2026. No macro, syntax, notation, axiom, sorry.
-/
import Derived.Test.YtdeahlljllelaabChecked
import GoSem.Claim
import GoSem.ClaimJoined
import GoSem.ClaimMapViews
import Derived.JoinedTies
import Derived.KernelRfl
namespace Go.Proofs.Ytdeahlljllelaab
/- THE CELL 'sum', in the pinned program and in every row, IS THE sha256 OF THE DUMP (.gsa) THAT YtdeahlljllelaabProg.lean LOADS. Nothing in Lean hashes anything: it is a label: what it is worth is what the hold of that sum in a sandbox is worth. -/
noncomputable def Try.pinned : Pinned := { name := "ytdeahlljllelaab", sum := "a1cba08daeef370ecbfc0e3ae4d03c25fcf70778284903ebb0c7c3f33584ea6c", checked := Try.checked }
namespace Rows
def none {H : Type} : Left H := { results := [], args := [] }

/-- 'laws.FnExactBase': WHATEVER THE INPUT: true; the input reads as it did. -/
def fnExactBaseSpec : ChangeSpec := { name := "fnExactBase", fn := fun _ => fun
  | [] => { results := [.lit (.bool true)], args := [] }
  | _ => none }
def fnExactBaseRow : OpenClaim := { program := "ytdeahlljllelaab", sum := "a1cba08daeef370ecbfc0e3ae4d03c25fcf70778284903ebb0c7c3f33584ea6c", func := "loop.example/g00321/laws.FnExactBase", spec := "fnExactBase", apart := false }
def FnExactBaseSaid : Prop := fnExactBaseRow.holds Try.pinned (OpenSpec.ofChange fnExactBaseSpec)

/-- ITS FALSE NEIGHBOUR: 'it returns false'. Refute it at one input. -/
def fnExactBaseWrong : ChangeSpec := { name := "fnExactBase", fn := fun _ => fun
  | [] => { results := [.lit (.bool false)], args := [] }
  | _ => none }
def FnExactBaseWrongFalsely : Prop := fnExactBaseRow.holds Try.pinned (OpenSpec.ofChange fnExactBaseWrong)

/-- 'laws.FnExactInGroup': WHATEVER THE INPUT: true; the input reads as it did. -/
def fnExactInGroupSpec : ChangeSpec := { name := "fnExactInGroup", fn := fun _ => fun
  | [d] => { results := [.lit (.bool true)], args := [d] }
  | _ => none }
def fnExactInGroupRow : OpenClaim := { program := "ytdeahlljllelaab", sum := "a1cba08daeef370ecbfc0e3ae4d03c25fcf70778284903ebb0c7c3f33584ea6c", func := "loop.example/g00321/laws.FnExactInGroup", spec := "fnExactInGroup", apart := false }
def FnExactInGroupSaid : Prop := fnExactInGroupRow.holds Try.pinned (OpenSpec.ofChange fnExactInGroupSpec)

/-- ITS FALSE NEIGHBOUR: 'it returns false'. Refute it at one input. -/
def fnExactInGroupWrong : ChangeSpec := { name := "fnExactInGroup", fn := fun _ => fun
  | [d] => { results := [.lit (.bool false)], args := [d] }
  | _ => none }
def FnExactInGroupWrongFalsely : Prop := fnExactInGroupRow.holds Try.pinned (OpenSpec.ofChange fnExactInGroupWrong)

/-- 'laws.FnExactPointText': WHATEVER THE INPUT: true; the input reads as it did. -/
def fnExactPointTextSpec : ChangeSpec := { name := "fnExactPointText", fn := fun _ => fun
  | [d] => { results := [.lit (.bool true)], args := [d] }
  | _ => none }
def fnExactPointTextRow : OpenClaim := { program := "ytdeahlljllelaab", sum := "a1cba08daeef370ecbfc0e3ae4d03c25fcf70778284903ebb0c7c3f33584ea6c", func := "loop.example/g00321/laws.FnExactPointText", spec := "fnExactPointText", apart := false }
def FnExactPointTextSaid : Prop := fnExactPointTextRow.holds Try.pinned (OpenSpec.ofChange fnExactPointTextSpec)

/-- ITS FALSE NEIGHBOUR: 'it returns false'. Refute it at one input. -/
def fnExactPointTextWrong : ChangeSpec := { name := "fnExactPointText", fn := fun _ => fun
  | [d] => { results := [.lit (.bool false)], args := [d] }
  | _ => none }
def FnExactPointTextWrongFalsely : Prop := fnExactPointTextRow.holds Try.pinned (OpenSpec.ofChange fnExactPointTextWrong)

/-- 'laws.FnExactReadPoint': WHATEVER THE INPUT: true; the input reads as it did. -/
def fnExactReadPointSpec : ChangeSpec := { name := "fnExactReadPoint", fn := fun _ => fun
  | [d] => { results := [.lit (.bool true)], args := [d] }
  | _ => none }
def fnExactReadPointRow : OpenClaim := { program := "ytdeahlljllelaab", sum := "a1cba08daeef370ecbfc0e3ae4d03c25fcf70778284903ebb0c7c3f33584ea6c", func := "loop.example/g00321/laws.FnExactReadPoint", spec := "fnExactReadPoint", apart := false }
def FnExactReadPointSaid : Prop := fnExactReadPointRow.holds Try.pinned (OpenSpec.ofChange fnExactReadPointSpec)

/-- ITS FALSE NEIGHBOUR: 'it returns false'. Refute it at one input. -/
def fnExactReadPointWrong : ChangeSpec := { name := "fnExactReadPoint", fn := fun _ => fun
  | [d] => { results := [.lit (.bool false)], args := [d] }
  | _ => none }
def FnExactReadPointWrongFalsely : Prop := fnExactReadPointRow.holds Try.pinned (OpenSpec.ofChange fnExactReadPointWrong)

/-- 'laws.FnExactSumPoints': WHATEVER THE INPUT: true; the input reads as it did. -/
def fnExactSumPointsSpec : ChangeSpec := { name := "fnExactSumPoints", fn := fun _ => fun
  | [d] => { results := [.lit (.bool true)], args := [d] }
  | _ => none }
def fnExactSumPointsRow : OpenClaim := { program := "ytdeahlljllelaab", sum := "a1cba08daeef370ecbfc0e3ae4d03c25fcf70778284903ebb0c7c3f33584ea6c", func := "loop.example/g00321/laws.FnExactSumPoints", spec := "fnExactSumPoints", apart := false }
def FnExactSumPointsSaid : Prop := fnExactSumPointsRow.holds Try.pinned (OpenSpec.ofChange fnExactSumPointsSpec)

/-- ITS FALSE NEIGHBOUR: 'it returns false'. Refute it at one input. -/
def fnExactSumPointsWrong : ChangeSpec := { name := "fnExactSumPoints", fn := fun _ => fun
  | [d] => { results := [.lit (.bool false)], args := [d] }
  | _ => none }
def FnExactSumPointsWrongFalsely : Prop := fnExactSumPointsRow.holds Try.pinned (OpenSpec.ofChange fnExactSumPointsWrong)

/- THE SECOND FORM. 'bulk': how many values and letters a reading holds, each counted each time it is reached (what is shared counts as often as it is met; a slice's spare places count too). A statement '..UptoSaid' is the law's where the arguments, and the package variables that the reading takes, are together of bulk at most 1048576: NARROWER than '..Said'. Prove '..Said' where nothing that the law and all that it calls make is longer than what came in: it says more and counts as full. Else prove '..UptoSaid'. A law counts once. -/
mutual
def uptoBulk {H : Type} : DataW H → Nat
  | .lit (.string bytes) => bytes.length + 1
  | .lit _ => 1
  | .nil => 1
  | .ptr d => uptoBulk d + 1
  | .slice elems spare => uptoBulkAll elems + uptoBulkAll spare + 1
  | .agg parts => uptoBulkAll parts + 1
  | .iface _ d => uptoBulk d + 1
  | .map entries => uptoBulkEntries entries + 1
  | .held _ => 1
def uptoBulkAll {H : Type} : List (DataW H) → Nat
  | [] => 0
  | d :: r => uptoBulk d + uptoBulkAll r
def uptoBulkEntries {H : Type} : List (Lit × DataW H) → Nat
  | [] => 0
  | x :: r => uptoBulkEntry x + uptoBulkEntries r
def uptoBulkEntry {H : Type} : Lit × DataW H → Nat
  | (.string bytes, d) => bytes.length + uptoBulk d + 1
  | (_, d) => uptoBulk d + 1
 end
def uptoSmall : (H : Type) → List (DataW H) → Bool := fun _ ds => decide (uptoBulkAll ds ≤ 1048576)
def OpenSpec.upto (s : _root_.Go.ChangeSpec) : _root_.Go.OpenSpec := { _root_.Go.OpenSpec.ofChange s with cond := some uptoSmall }

/-- 'laws.FnExactBase', WHERE WHAT IT READS IS OF BULK AT MOST 1048576: true; the input reads as it did. -/
def fnExactBaseUptoRow : OpenClaim := { program := "ytdeahlljllelaab", sum := "a1cba08daeef370ecbfc0e3ae4d03c25fcf70778284903ebb0c7c3f33584ea6c", func := "loop.example/g00321/laws.FnExactBase", spec := "fnExactBase", apart := false, narrowed := true }
def FnExactBaseUptoSaid : Prop := fnExactBaseUptoRow.holds Try.pinned (OpenSpec.upto fnExactBaseSpec)

/-- 'laws.FnExactInGroup', WHERE WHAT IT READS IS OF BULK AT MOST 1048576: true; the input reads as it did. -/
def fnExactInGroupUptoRow : OpenClaim := { program := "ytdeahlljllelaab", sum := "a1cba08daeef370ecbfc0e3ae4d03c25fcf70778284903ebb0c7c3f33584ea6c", func := "loop.example/g00321/laws.FnExactInGroup", spec := "fnExactInGroup", apart := false, narrowed := true }
def FnExactInGroupUptoSaid : Prop := fnExactInGroupUptoRow.holds Try.pinned (OpenSpec.upto fnExactInGroupSpec)

/-- 'laws.FnExactPointText', WHERE WHAT IT READS IS OF BULK AT MOST 1048576: true; the input reads as it did. -/
def fnExactPointTextUptoRow : OpenClaim := { program := "ytdeahlljllelaab", sum := "a1cba08daeef370ecbfc0e3ae4d03c25fcf70778284903ebb0c7c3f33584ea6c", func := "loop.example/g00321/laws.FnExactPointText", spec := "fnExactPointText", apart := false, narrowed := true }
def FnExactPointTextUptoSaid : Prop := fnExactPointTextUptoRow.holds Try.pinned (OpenSpec.upto fnExactPointTextSpec)

/-- 'laws.FnExactReadPoint', WHERE WHAT IT READS IS OF BULK AT MOST 1048576: true; the input reads as it did. -/
def fnExactReadPointUptoRow : OpenClaim := { program := "ytdeahlljllelaab", sum := "a1cba08daeef370ecbfc0e3ae4d03c25fcf70778284903ebb0c7c3f33584ea6c", func := "loop.example/g00321/laws.FnExactReadPoint", spec := "fnExactReadPoint", apart := false, narrowed := true }
def FnExactReadPointUptoSaid : Prop := fnExactReadPointUptoRow.holds Try.pinned (OpenSpec.upto fnExactReadPointSpec)

/-- 'laws.FnExactSumPoints', WHERE WHAT IT READS IS OF BULK AT MOST 1048576: true; the input reads as it did. -/
def fnExactSumPointsUptoRow : OpenClaim := { program := "ytdeahlljllelaab", sum := "a1cba08daeef370ecbfc0e3ae4d03c25fcf70778284903ebb0c7c3f33584ea6c", func := "loop.example/g00321/laws.FnExactSumPoints", spec := "fnExactSumPoints", apart := false, narrowed := true }
def FnExactSumPointsUptoSaid : Prop := fnExactSumPointsUptoRow.holds Try.pinned (OpenSpec.upto fnExactSumPointsSpec)

end Rows
end Go.Proofs.Ytdeahlljllelaab
