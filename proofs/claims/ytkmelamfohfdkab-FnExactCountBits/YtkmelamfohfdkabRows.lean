/-
  No cell of these rows narrows 'for every input' (looked for: loops, veiled, ifaces, maps, wideKeys, modest, calm, conditions, laid).
  DERIVED. THE GIVEN ROWS OF THIS SEAT. 4 by the template 'for every input the law returns true; each argument reads behind the call as it read before'; 0 by the template 'total and deterministic' (their statements: YtkmelamfohfdkabTotals.lean).
  GIVEN WITH THE SEED: the statements are not yours to turn. If you find one false, say at which input.
  Laid BY PROGRAM, IN A SANDBOX (cutbox-rows.mjs): the forced cells as the released guide's own fill.sh prints them over the translation d9ffe25bf5b2601a… (all of the seat's roots in one cut). By AI agents, Wed Nov 11 2026. No macro, syntax, notation, axiom, sorry.
-/
import Derived.Test.YtkmelamfohfdkabChecked
import GoSem.Claim
import GoSem.ClaimJoined
import GoSem.ClaimMapViews
import Derived.JoinedTies
import Derived.KernelRfl
namespace Go.Proofs.Ytkmelamfohfdkab
/- THE CELL 'sum', in the pinned program and in every row, IS THE sha256 OF THE DUMP (.gsa) THAT YtkmelamfohfdkabProg.lean LOADS. Nothing in Lean hashes anything: it is a label: what it is worth is what the hold of that sum in a sandbox is worth. -/
noncomputable def Try.pinned : Pinned := { name := "ytkmelamfohfdkab", sum := "d9ffe25bf5b2601ad9d6ef2987a0ab2f2cff1e4eafe6faeb9d9ea46acb7053db", checked := Try.checked }
namespace Rows
def none {H : Type} : Left H := { results := [], args := [] }

/-- 'laws.FnExactCountBits': WHATEVER THE INPUT: true; the input reads as it did. -/
def fnExactCountBitsSpec : ChangeSpec := { name := "fnExactCountBits", fn := fun _ => fun
  | [d] => { results := [.lit (.bool true)], args := [d] }
  | _ => none }
def fnExactCountBitsRow : OpenClaim := { program := "ytkmelamfohfdkab", sum := "d9ffe25bf5b2601ad9d6ef2987a0ab2f2cff1e4eafe6faeb9d9ea46acb7053db", func := "loop.example/g00321/laws.FnExactCountBits", spec := "fnExactCountBits", apart := false }
def FnExactCountBitsSaid : Prop := fnExactCountBitsRow.holds Try.pinned (OpenSpec.ofChange fnExactCountBitsSpec)

/-- ITS FALSE NEIGHBOUR: 'it returns false'. Refute it at one input. -/
def fnExactCountBitsWrong : ChangeSpec := { name := "fnExactCountBits", fn := fun _ => fun
  | [d] => { results := [.lit (.bool false)], args := [d] }
  | _ => none }
def FnExactCountBitsWrongFalsely : Prop := fnExactCountBitsRow.holds Try.pinned (OpenSpec.ofChange fnExactCountBitsWrong)

/-- 'laws.FnExactJoined': WHATEVER THE INPUT: true; the input reads as it did. -/
def fnExactJoinedSpec : ChangeSpec := { name := "fnExactJoined", fn := fun _ => fun
  | [d1, d2] => { results := [.lit (.bool true)], args := [d1, d2] }
  | _ => none }
def fnExactJoinedRow : OpenClaim := { program := "ytkmelamfohfdkab", sum := "d9ffe25bf5b2601ad9d6ef2987a0ab2f2cff1e4eafe6faeb9d9ea46acb7053db", func := "loop.example/g00321/laws.FnExactJoined", spec := "fnExactJoined", leaving := true, apart := false }
def FnExactJoinedSaid : Prop := fnExactJoinedRow.holds Try.pinned (OpenSpec.ofChange fnExactJoinedSpec)

/-- ITS FALSE NEIGHBOUR: 'it returns false'. Refute it at one input. -/
def fnExactJoinedWrong : ChangeSpec := { name := "fnExactJoined", fn := fun _ => fun
  | [d1, d2] => { results := [.lit (.bool false)], args := [d1, d2] }
  | _ => none }
def FnExactJoinedWrongFalsely : Prop := fnExactJoinedRow.holds Try.pinned (OpenSpec.ofChange fnExactJoinedWrong)

/-- 'laws.FnExactSecretsOf': WHATEVER THE INPUT: true; the input reads as it did. -/
def fnExactSecretsOfSpec : ChangeSpec := { name := "fnExactSecretsOf", fn := fun _ => fun
  | [d] => { results := [.lit (.bool true)], args := [d] }
  | _ => none }
def fnExactSecretsOfRow : OpenClaim := { program := "ytkmelamfohfdkab", sum := "d9ffe25bf5b2601ad9d6ef2987a0ab2f2cff1e4eafe6faeb9d9ea46acb7053db", func := "loop.example/g00321/laws.FnExactSecretsOf", spec := "fnExactSecretsOf", apart := false }
def FnExactSecretsOfSaid : Prop := fnExactSecretsOfRow.holds Try.pinned (OpenSpec.ofChange fnExactSecretsOfSpec)

/-- ITS FALSE NEIGHBOUR: 'it returns false'. Refute it at one input. -/
def fnExactSecretsOfWrong : ChangeSpec := { name := "fnExactSecretsOf", fn := fun _ => fun
  | [d] => { results := [.lit (.bool false)], args := [d] }
  | _ => none }
def FnExactSecretsOfWrongFalsely : Prop := fnExactSecretsOfRow.holds Try.pinned (OpenSpec.ofChange fnExactSecretsOfWrong)

/-- 'laws.FnExactCommitteeOf': WHATEVER THE INPUT: true; the input reads as it did. -/
def fnExactCommitteeOfSpec : ChangeSpec := { name := "fnExactCommitteeOf", fn := fun _ => fun
  | [d] => { results := [.lit (.bool true)], args := [d] }
  | _ => none }
def fnExactCommitteeOfRow : OpenClaim := { program := "ytkmelamfohfdkab", sum := "d9ffe25bf5b2601ad9d6ef2987a0ab2f2cff1e4eafe6faeb9d9ea46acb7053db", func := "loop.example/g00321/laws.FnExactCommitteeOf", spec := "fnExactCommitteeOf", apart := false }
def FnExactCommitteeOfSaid : Prop := fnExactCommitteeOfRow.holds Try.pinned (OpenSpec.ofChange fnExactCommitteeOfSpec)

/-- ITS FALSE NEIGHBOUR: 'it returns false'. Refute it at one input. -/
def fnExactCommitteeOfWrong : ChangeSpec := { name := "fnExactCommitteeOf", fn := fun _ => fun
  | [d] => { results := [.lit (.bool false)], args := [d] }
  | _ => none }
def FnExactCommitteeOfWrongFalsely : Prop := fnExactCommitteeOfRow.holds Try.pinned (OpenSpec.ofChange fnExactCommitteeOfWrong)

/- THE SECOND FORM. 'bulk': how many values and letters a reading holds, each counted each time it is reached (what is shared counts as often as it is met; a slice's spare places count too). A statement '..UptoSaid' is the law's where the arguments, and the package variables that the reading takes, are together of bulk at most 1048576: NARROWER than '..Said'. Prove '..Said' where nothing that the law and all that it calls make is longer than what came in: it says more and counts as full. Else prove '..UptoSaid'. A law counts once. -/
mutual
def uptoBulk {H : Type} : DataW H → Nat
  | .lit (.string bytes) => bytes.length + 1
  | .lit _ => 1
  | .nil => 1
  | .ptr d => uptoBulk d + 1
  | .slice elems spare => uptoBulkAll elems + uptoBulkAll spare + 1
  | .agg parts => uptoBulkAll parts + 1
  | .iface _ d => uptoBulk d + 1
  | .map entries => uptoBulkEntries entries + 1
  | .held _ => 1
def uptoBulkAll {H : Type} : List (DataW H) → Nat
  | [] => 0
  | d :: r => uptoBulk d + uptoBulkAll r
def uptoBulkEntries {H : Type} : List (Lit × DataW H) → Nat
  | [] => 0
  | x :: r => uptoBulkEntry x + uptoBulkEntries r
def uptoBulkEntry {H : Type} : Lit × DataW H → Nat
  | (.string bytes, d) => bytes.length + uptoBulk d + 1
  | (_, d) => uptoBulk d + 1
 end
def uptoSmall : (H : Type) → List (DataW H) → Bool := fun _ ds => decide (uptoBulkAll ds ≤ 1048576)
def OpenSpec.upto (s : _root_.Go.ChangeSpec) : _root_.Go.OpenSpec := { _root_.Go.OpenSpec.ofChange s with cond := some uptoSmall }

/-- 'laws.FnExactCountBits', WHERE WHAT IT READS IS OF BULK AT MOST 1048576: true; the input reads as it did. -/
def fnExactCountBitsUptoRow : OpenClaim := { program := "ytkmelamfohfdkab", sum := "d9ffe25bf5b2601ad9d6ef2987a0ab2f2cff1e4eafe6faeb9d9ea46acb7053db", func := "loop.example/g00321/laws.FnExactCountBits", spec := "fnExactCountBits", apart := false, narrowed := true }
def FnExactCountBitsUptoSaid : Prop := fnExactCountBitsUptoRow.holds Try.pinned (OpenSpec.upto fnExactCountBitsSpec)

/-- 'laws.FnExactJoined', WHERE WHAT IT READS IS OF BULK AT MOST 1048576: true; the input reads as it did. -/
def fnExactJoinedUptoRow : OpenClaim := { program := "ytkmelamfohfdkab", sum := "d9ffe25bf5b2601ad9d6ef2987a0ab2f2cff1e4eafe6faeb9d9ea46acb7053db", func := "loop.example/g00321/laws.FnExactJoined", spec := "fnExactJoined", leaving := true, apart := false, narrowed := true }
def FnExactJoinedUptoSaid : Prop := fnExactJoinedUptoRow.holds Try.pinned (OpenSpec.upto fnExactJoinedSpec)

/-- 'laws.FnExactSecretsOf', WHERE WHAT IT READS IS OF BULK AT MOST 1048576: true; the input reads as it did. -/
def fnExactSecretsOfUptoRow : OpenClaim := { program := "ytkmelamfohfdkab", sum := "d9ffe25bf5b2601ad9d6ef2987a0ab2f2cff1e4eafe6faeb9d9ea46acb7053db", func := "loop.example/g00321/laws.FnExactSecretsOf", spec := "fnExactSecretsOf", apart := false, narrowed := true }
def FnExactSecretsOfUptoSaid : Prop := fnExactSecretsOfUptoRow.holds Try.pinned (OpenSpec.upto fnExactSecretsOfSpec)

/-- 'laws.FnExactCommitteeOf', WHERE WHAT IT READS IS OF BULK AT MOST 1048576: true; the input reads as it did. -/
def fnExactCommitteeOfUptoRow : OpenClaim := { program := "ytkmelamfohfdkab", sum := "d9ffe25bf5b2601ad9d6ef2987a0ab2f2cff1e4eafe6faeb9d9ea46acb7053db", func := "loop.example/g00321/laws.FnExactCommitteeOf", spec := "fnExactCommitteeOf", apart := false, narrowed := true }
def FnExactCommitteeOfUptoSaid : Prop := fnExactCommitteeOfUptoRow.holds Try.pinned (OpenSpec.upto fnExactCommitteeOfSpec)

end Rows
end Go.Proofs.Ytkmelamfohfdkab
