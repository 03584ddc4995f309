/-
  No cell of these rows narrows 'for every input' (looked for: loops, veiled, ifaces, maps, wideKeys, modest, calm, conditions, laid).
  DERIVED. THE GIVEN ROWS OF THIS SEAT. 6 by the template 'for every input the law returns true; each argument reads behind the call as it read before'; 0 by the template 'total and deterministic' (their statements: YtheadokdmncdoaaTotals.lean).
  GIVEN WITH THE SEED: the statements are not yours to turn. If you find one false, say at which input.
  Laid BY PROGRAM, IN A SANDBOX (cutbox-rows.mjs): the forced cells as the released guide's own fill.sh prints them over the translation 2e7f29c77be8f7da… (all of the seat's roots in one cut). By AI agents, Wed Nov 11 2026. No macro, syntax, notation, axiom, sorry.
-/
import Derived.Test.YtheadokdmncdoaaChecked
import GoSem.Claim
import GoSem.ClaimJoined
import GoSem.ClaimMapViews
import Derived.JoinedTies
import Derived.KernelRfl
namespace Go.Proofs.Ytheadokdmncdoaa
/- THE CELL 'sum', in the pinned program and in every row, IS THE sha256 OF THE DUMP (.gsa) THAT YtheadokdmncdoaaProg.lean LOADS. Nothing in Lean hashes anything: it is a label: what it is worth is what the hold of that sum in a sandbox is worth. -/
noncomputable def Try.pinned : Pinned := { name := "ytheadokdmncdoaa", sum := "2e7f29c77be8f7da9b4c8c74f191a87a46f6a2d9cb69fb5d9912d6e7b9a20c6b", checked := Try.checked }
namespace Rows
def none {H : Type} : Left H := { results := [], args := [] }

/-- 'laws.FnRows': WHATEVER THE INPUT: true; the input reads as it did. -/
def fnRowsSpec : ChangeSpec := { name := "fnRows", fn := fun _ => fun
  | [d] => { results := [.lit (.bool true)], args := [d] }
  | _ => none }
def fnRowsRow : OpenClaim := { program := "ytheadokdmncdoaa", sum := "2e7f29c77be8f7da9b4c8c74f191a87a46f6a2d9cb69fb5d9912d6e7b9a20c6b", func := "loop.example/g00321/laws.FnRows", spec := "fnRows", unfollowed := true, recurses := true, apart := false }
def FnRowsSaid : Prop := fnRowsRow.holds Try.pinned (OpenSpec.ofChange fnRowsSpec)

/-- ITS FALSE NEIGHBOUR: 'it returns false'. Refute it at one input. -/
def fnRowsWrong : ChangeSpec := { name := "fnRows", fn := fun _ => fun
  | [d] => { results := [.lit (.bool false)], args := [d] }
  | _ => none }
def FnRowsWrongFalsely : Prop := fnRowsRow.holds Try.pinned (OpenSpec.ofChange fnRowsWrong)

/-- 'laws.FnExactSystemOk': WHATEVER THE INPUT: true; the input reads as it did. -/
def fnExactSystemOkSpec : ChangeSpec := { name := "fnExactSystemOk", fn := fun _ => fun
  | [d] => { results := [.lit (.bool true)], args := [d] }
  | _ => none }
def fnExactSystemOkRow : OpenClaim := { program := "ytheadokdmncdoaa", sum := "2e7f29c77be8f7da9b4c8c74f191a87a46f6a2d9cb69fb5d9912d6e7b9a20c6b", func := "loop.example/g00321/laws.FnExactSystemOk", spec := "fnExactSystemOk", apart := false }
def FnExactSystemOkSaid : Prop := fnExactSystemOkRow.holds Try.pinned (OpenSpec.ofChange fnExactSystemOkSpec)

/-- ITS FALSE NEIGHBOUR: 'it returns false'. Refute it at one input. -/
def fnExactSystemOkWrong : ChangeSpec := { name := "fnExactSystemOk", fn := fun _ => fun
  | [d] => { results := [.lit (.bool false)], args := [d] }
  | _ => none }
def FnExactSystemOkWrongFalsely : Prop := fnExactSystemOkRow.holds Try.pinned (OpenSpec.ofChange fnExactSystemOkWrong)

/-- 'laws.FnExactSatisfied': WHATEVER THE INPUT: true; the input reads as it did. -/
def fnExactSatisfiedSpec : ChangeSpec := { name := "fnExactSatisfied", fn := fun _ => fun
  | [d1, d2] => { results := [.lit (.bool true)], args := [d1, d2] }
  | _ => none }
def fnExactSatisfiedRow : OpenClaim := { program := "ytheadokdmncdoaa", sum := "2e7f29c77be8f7da9b4c8c74f191a87a46f6a2d9cb69fb5d9912d6e7b9a20c6b", func := "loop.example/g00321/laws.FnExactSatisfied", spec := "fnExactSatisfied", apart := false }
def FnExactSatisfiedSaid : Prop := fnExactSatisfiedRow.holds Try.pinned (OpenSpec.ofChange fnExactSatisfiedSpec)

/-- ITS FALSE NEIGHBOUR: 'it returns false'. Refute it at one input. -/
def fnExactSatisfiedWrong : ChangeSpec := { name := "fnExactSatisfied", fn := fun _ => fun
  | [d1, d2] => { results := [.lit (.bool false)], args := [d1, d2] }
  | _ => none }
def FnExactSatisfiedWrongFalsely : Prop := fnExactSatisfiedRow.holds Try.pinned (OpenSpec.ofChange fnExactSatisfiedWrong)

/-- 'laws.FnExactCountSystem': WHATEVER THE INPUT: true; the input reads as it did. -/
def fnExactCountSystemSpec : ChangeSpec := { name := "fnExactCountSystem", fn := fun _ => fun
  | [] => { results := [.lit (.bool true)], args := [] }
  | _ => none }
def fnExactCountSystemRow : OpenClaim := { program := "ytheadokdmncdoaa", sum := "2e7f29c77be8f7da9b4c8c74f191a87a46f6a2d9cb69fb5d9912d6e7b9a20c6b", func := "loop.example/g00321/laws.FnExactCountSystem", spec := "fnExactCountSystem", unfollowed := true, recurses := true, apart := false }
def FnExactCountSystemSaid : Prop := fnExactCountSystemRow.holds Try.pinned (OpenSpec.ofChange fnExactCountSystemSpec)

/-- ITS FALSE NEIGHBOUR: 'it returns false'. Refute it at one input. -/
def fnExactCountSystemWrong : ChangeSpec := { name := "fnExactCountSystem", fn := fun _ => fun
  | [] => { results := [.lit (.bool false)], args := [] }
  | _ => none }
def FnExactCountSystemWrongFalsely : Prop := fnExactCountSystemRow.holds Try.pinned (OpenSpec.ofChange fnExactCountSystemWrong)

/-- 'laws.FnExactCountWitness': WHATEVER THE INPUT: true; the input reads as it did. -/
def fnExactCountWitnessSpec : ChangeSpec := { name := "fnExactCountWitness", fn := fun _ => fun
  | [d] => { results := [.lit (.bool true)], args := [d] }
  | _ => none }
def fnExactCountWitnessRow : OpenClaim := { program := "ytheadokdmncdoaa", sum := "2e7f29c77be8f7da9b4c8c74f191a87a46f6a2d9cb69fb5d9912d6e7b9a20c6b", func := "loop.example/g00321/laws.FnExactCountWitness", spec := "fnExactCountWitness", apart := false }
def FnExactCountWitnessSaid : Prop := fnExactCountWitnessRow.holds Try.pinned (OpenSpec.ofChange fnExactCountWitnessSpec)

/-- ITS FALSE NEIGHBOUR: 'it returns false'. Refute it at one input. -/
def fnExactCountWitnessWrong : ChangeSpec := { name := "fnExactCountWitness", fn := fun _ => fun
  | [d] => { results := [.lit (.bool false)], args := [d] }
  | _ => none }
def FnExactCountWitnessWrongFalsely : Prop := fnExactCountWitnessRow.holds Try.pinned (OpenSpec.ofChange fnExactCountWitnessWrong)

/-- 'laws.FnExactPublicOf': WHATEVER THE INPUT: true; the input reads as it did. -/
def fnExactPublicOfSpec : ChangeSpec := { name := "fnExactPublicOf", fn := fun _ => fun
  | [d] => { results := [.lit (.bool true)], args := [d] }
  | _ => none }
def fnExactPublicOfRow : OpenClaim := { program := "ytheadokdmncdoaa", sum := "2e7f29c77be8f7da9b4c8c74f191a87a46f6a2d9cb69fb5d9912d6e7b9a20c6b", func := "loop.example/g00321/laws.FnExactPublicOf", spec := "fnExactPublicOf", apart := false }
def FnExactPublicOfSaid : Prop := fnExactPublicOfRow.holds Try.pinned (OpenSpec.ofChange fnExactPublicOfSpec)

/-- ITS FALSE NEIGHBOUR: 'it returns false'. Refute it at one input. -/
def fnExactPublicOfWrong : ChangeSpec := { name := "fnExactPublicOf", fn := fun _ => fun
  | [d] => { results := [.lit (.bool false)], args := [d] }
  | _ => none }
def FnExactPublicOfWrongFalsely : Prop := fnExactPublicOfRow.holds Try.pinned (OpenSpec.ofChange fnExactPublicOfWrong)

/- THE SECOND FORM. 'bulk': how many values and letters a reading holds, each counted each time it is reached (what is shared counts as often as it is met; a slice's spare places count too). A statement '..UptoSaid' is the law's where the arguments, and the package variables that the reading takes, are together of bulk at most 1048576: NARROWER than '..Said'. Prove '..Said' where nothing that the law and all that it calls make is longer than what came in: it says more and counts as full. Else prove '..UptoSaid'. A law counts once. -/
mutual
def uptoBulk {H : Type} : DataW H → Nat
  | .lit (.string bytes) => bytes.length + 1
  | .lit _ => 1
  | .nil => 1
  | .ptr d => uptoBulk d + 1
  | .slice elems spare => uptoBulkAll elems + uptoBulkAll spare + 1
  | .agg parts => uptoBulkAll parts + 1
  | .iface _ d => uptoBulk d + 1
  | .map entries => uptoBulkEntries entries + 1
  | .held _ => 1
def uptoBulkAll {H : Type} : List (DataW H) → Nat
  | [] => 0
  | d :: r => uptoBulk d + uptoBulkAll r
def uptoBulkEntries {H : Type} : List (Lit × DataW H) → Nat
  | [] => 0
  | x :: r => uptoBulkEntry x + uptoBulkEntries r
def uptoBulkEntry {H : Type} : Lit × DataW H → Nat
  | (.string bytes, d) => bytes.length + uptoBulk d + 1
  | (_, d) => uptoBulk d + 1
 end
def uptoSmall : (H : Type) → List (DataW H) → Bool := fun _ ds => decide (uptoBulkAll ds ≤ 1048576)
def OpenSpec.upto (s : _root_.Go.ChangeSpec) : _root_.Go.OpenSpec := { _root_.Go.OpenSpec.ofChange s with cond := some uptoSmall }

/-- 'laws.FnRows', WHERE WHAT IT READS IS OF BULK AT MOST 1048576: true; the input reads as it did. -/
def fnRowsUptoRow : OpenClaim := { program := "ytheadokdmncdoaa", sum := "2e7f29c77be8f7da9b4c8c74f191a87a46f6a2d9cb69fb5d9912d6e7b9a20c6b", func := "loop.example/g00321/laws.FnRows", spec := "fnRows", unfollowed := true, recurses := true, apart := false, narrowed := true }
def FnRowsUptoSaid : Prop := fnRowsUptoRow.holds Try.pinned (OpenSpec.upto fnRowsSpec)

/-- 'laws.FnExactSystemOk', WHERE WHAT IT READS IS OF BULK AT MOST 1048576: true; the input reads as it did. -/
def fnExactSystemOkUptoRow : OpenClaim := { program := "ytheadokdmncdoaa", sum := "2e7f29c77be8f7da9b4c8c74f191a87a46f6a2d9cb69fb5d9912d6e7b9a20c6b", func := "loop.example/g00321/laws.FnExactSystemOk", spec := "fnExactSystemOk", apart := false, narrowed := true }
def FnExactSystemOkUptoSaid : Prop := fnExactSystemOkUptoRow.holds Try.pinned (OpenSpec.upto fnExactSystemOkSpec)

/-- 'laws.FnExactSatisfied', WHERE WHAT IT READS IS OF BULK AT MOST 1048576: true; the input reads as it did. -/
def fnExactSatisfiedUptoRow : OpenClaim := { program := "ytheadokdmncdoaa", sum := "2e7f29c77be8f7da9b4c8c74f191a87a46f6a2d9cb69fb5d9912d6e7b9a20c6b", func := "loop.example/g00321/laws.FnExactSatisfied", spec := "fnExactSatisfied", apart := false, narrowed := true }
def FnExactSatisfiedUptoSaid : Prop := fnExactSatisfiedUptoRow.holds Try.pinned (OpenSpec.upto fnExactSatisfiedSpec)

/-- 'laws.FnExactCountSystem', WHERE WHAT IT READS IS OF BULK AT MOST 1048576: true; the input reads as it did. -/
def fnExactCountSystemUptoRow : OpenClaim := { program := "ytheadokdmncdoaa", sum := "2e7f29c77be8f7da9b4c8c74f191a87a46f6a2d9cb69fb5d9912d6e7b9a20c6b", func := "loop.example/g00321/laws.FnExactCountSystem", spec := "fnExactCountSystem", unfollowed := true, recurses := true, apart := false, narrowed := true }
def FnExactCountSystemUptoSaid : Prop := fnExactCountSystemUptoRow.holds Try.pinned (OpenSpec.upto fnExactCountSystemSpec)

/-- 'laws.FnExactCountWitness', WHERE WHAT IT READS IS OF BULK AT MOST 1048576: true; the input reads as it did. -/
def fnExactCountWitnessUptoRow : OpenClaim := { program := "ytheadokdmncdoaa", sum := "2e7f29c77be8f7da9b4c8c74f191a87a46f6a2d9cb69fb5d9912d6e7b9a20c6b", func := "loop.example/g00321/laws.FnExactCountWitness", spec := "fnExactCountWitness", apart := false, narrowed := true }
def FnExactCountWitnessUptoSaid : Prop := fnExactCountWitnessUptoRow.holds Try.pinned (OpenSpec.upto fnExactCountWitnessSpec)

/-- 'laws.FnExactPublicOf', WHERE WHAT IT READS IS OF BULK AT MOST 1048576: true; the input reads as it did. -/
def fnExactPublicOfUptoRow : OpenClaim := { program := "ytheadokdmncdoaa", sum := "2e7f29c77be8f7da9b4c8c74f191a87a46f6a2d9cb69fb5d9912d6e7b9a20c6b", func := "loop.example/g00321/laws.FnExactPublicOf", spec := "fnExactPublicOf", apart := false, narrowed := true }
def FnExactPublicOfUptoSaid : Prop := fnExactPublicOfUptoRow.holds Try.pinned (OpenSpec.upto fnExactPublicOfSpec)

end Rows
end Go.Proofs.Ytheadokdmncdoaa
