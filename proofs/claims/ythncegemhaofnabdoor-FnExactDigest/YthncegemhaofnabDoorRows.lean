/-
  NARROWER THAN 'FOR EVERY INPUT', by the rows' own cells (each row's printed sentence says how): FnExactDigest: laid · FnExactDigestHex: laid · FnExactDigestPair: laid.
  DERIVED. THE GIVEN ROWS OF THIS SEAT. 3 by the template 'for every input the law returns true; each argument reads behind the call as it read before'; 0 by the template 'total and deterministic' (their statements: YthncegemhaofnabDoorTotals.lean).
  GIVEN WITH THE SEED: the statements are not yours to turn. If you find one false, say at which input.
  Laid BY PROGRAM, IN A SANDBOX (cutbox-rows.mjs): the forced cells as the released guide's own fill.sh prints them over the translation 3149a65c3c1142e5… (all of the seat's roots in one cut). By AI agents, Wed Nov 11 2026. No macro, syntax, notation, axiom, sorry.
-/
import Derived.Test.YthncegemhaofnabDoorChecked
import GoSem.Claim
import GoSem.ClaimJoined
import GoSem.ClaimMapViews
import Derived.JoinedTies
import Derived.KernelRfl
namespace Go.Proofs.YthncegemhaofnabDoor
/- THE CELL 'sum', in the pinned program and in every row, IS THE sha256 OF THE DUMP (.gsa) THAT YthncegemhaofnabDoorProg.lean LOADS. Nothing in Lean hashes anything: it is a label: what it is worth is what the hold of that sum in a sandbox is worth. -/
noncomputable def Tryd.pinned : Pinned := { name := "ythncegemhaofnabdoor", sum := "3149a65c3c1142e5ba1436b8a803a39c0ee6bec81c1a13386288e592a3c54d44", checked := Tryd.checked }
namespace Rows
def none {H : Type} : Left H := { results := [], args := [] }

/- WHAT THE LISTED PACKAGE-LEVEL VARIABLES READ AS WHEN THE CALL BEGINS. Each datum BY PROGRAM (the guide's laid-datum.mjs) off the statement by which the dump's own 'gosem.cut.vars' lays the variable. In a bare row this is a premise. The card (YthncegemhaofnabDoorCards.lean) ties it to the program's text. -/
def laid_loop_example_g00321_impl_roundWords {H : Type} : DataW H := .agg [.lit (.int .u64 1), .lit (.int .u64 32898), .lit (.int .u64 9223372036854808714), .lit (.int .u64 9223372039002292224), .lit (.int .u64 32907), .lit (.int .u64 2147483649), .lit (.int .u64 9223372039002292353), .lit (.int .u64 9223372036854808585), .lit (.int .u64 138), .lit (.int .u64 136), .lit (.int .u64 2147516425), .lit (.int .u64 2147483658), .lit (.int .u64 2147516555), .lit (.int .u64 9223372036854775947), .lit (.int .u64 9223372036854808713), .lit (.int .u64 9223372036854808579), .lit (.int .u64 9223372036854808578), .lit (.int .u64 9223372036854775936), .lit (.int .u64 32778), .lit (.int .u64 9223372039002259466), .lit (.int .u64 9223372039002292353), .lit (.int .u64 9223372036854808704), .lit (.int .u64 2147483649), .lit (.int .u64 9223372039002292232)]

/-- 'laws.FnExactDigest': WHATEVER THE INPUT: true; the input reads as it did. -/
def fnExactDigestSpec : ChangeSpec := { name := "fnExactDigest", vars := ["loop.example/g00321/impl.roundWords"], fn := fun _ => fun
  | [d, g1] => { results := [.lit (.bool true)], args := [d], vars := [g1] }
  | _ => none }
def fnExactDigestRow : OpenClaim := { program := "ythncegemhaofnabdoor", sum := "3149a65c3c1142e5ba1436b8a803a39c0ee6bec81c1a13386288e592a3c54d44", func := "loop.example/g00321/laws.FnExactDigest", spec := "fnExactDigest", named := ["loop.example/g00321/impl.roundWords"], apart := false, laid := [("loop.example/g00321/impl.roundWords", laid_loop_example_g00321_impl_roundWords)] }
def FnExactDigestSaid : Prop := fnExactDigestRow.holds Tryd.pinned (OpenSpec.ofChange fnExactDigestSpec)

/-- ITS FALSE NEIGHBOUR: 'it returns false'. Refute it at one input. -/
def fnExactDigestWrong : ChangeSpec := { name := "fnExactDigest", vars := ["loop.example/g00321/impl.roundWords"], fn := fun _ => fun
  | [d, g1] => { results := [.lit (.bool false)], args := [d], vars := [g1] }
  | _ => none }
def FnExactDigestWrongFalsely : Prop := fnExactDigestRow.holds Tryd.pinned (OpenSpec.ofChange fnExactDigestWrong)

/-- 'laws.FnExactDigestHex': WHATEVER THE INPUT: true; the input reads as it did. -/
def fnExactDigestHexSpec : ChangeSpec := { name := "fnExactDigestHex", vars := ["loop.example/g00321/impl.roundWords"], fn := fun _ => fun
  | [d, g1] => { results := [.lit (.bool true)], args := [d], vars := [g1] }
  | _ => none }
def fnExactDigestHexRow : OpenClaim := { program := "ythncegemhaofnabdoor", sum := "3149a65c3c1142e5ba1436b8a803a39c0ee6bec81c1a13386288e592a3c54d44", func := "loop.example/g00321/laws.FnExactDigestHex", spec := "fnExactDigestHex", named := ["loop.example/g00321/impl.roundWords"], apart := false, laid := [("loop.example/g00321/impl.roundWords", laid_loop_example_g00321_impl_roundWords)] }
def FnExactDigestHexSaid : Prop := fnExactDigestHexRow.holds Tryd.pinned (OpenSpec.ofChange fnExactDigestHexSpec)

/-- ITS FALSE NEIGHBOUR: 'it returns false'. Refute it at one input. -/
def fnExactDigestHexWrong : ChangeSpec := { name := "fnExactDigestHex", vars := ["loop.example/g00321/impl.roundWords"], fn := fun _ => fun
  | [d, g1] => { results := [.lit (.bool false)], args := [d], vars := [g1] }
  | _ => none }
def FnExactDigestHexWrongFalsely : Prop := fnExactDigestHexRow.holds Tryd.pinned (OpenSpec.ofChange fnExactDigestHexWrong)

/-- 'laws.FnExactDigestPair': WHATEVER THE INPUT: true; the input reads as it did. -/
def fnExactDigestPairSpec : ChangeSpec := { name := "fnExactDigestPair", vars := ["loop.example/g00321/impl.roundWords"], fn := fun _ => fun
  | [d1, d2, g1] => { results := [.lit (.bool true)], args := [d1, d2], vars := [g1] }
  | _ => none }
def fnExactDigestPairRow : OpenClaim := { program := "ythncegemhaofnabdoor", sum := "3149a65c3c1142e5ba1436b8a803a39c0ee6bec81c1a13386288e592a3c54d44", func := "loop.example/g00321/laws.FnExactDigestPair", spec := "fnExactDigestPair", named := ["loop.example/g00321/impl.roundWords"], apart := false, laid := [("loop.example/g00321/impl.roundWords", laid_loop_example_g00321_impl_roundWords)] }
def FnExactDigestPairSaid : Prop := fnExactDigestPairRow.holds Tryd.pinned (OpenSpec.ofChange fnExactDigestPairSpec)

/-- ITS FALSE NEIGHBOUR: 'it returns false'. Refute it at one input. -/
def fnExactDigestPairWrong : ChangeSpec := { name := "fnExactDigestPair", vars := ["loop.example/g00321/impl.roundWords"], fn := fun _ => fun
  | [d1, d2, g1] => { results := [.lit (.bool false)], args := [d1, d2], vars := [g1] }
  | _ => none }
def FnExactDigestPairWrongFalsely : Prop := fnExactDigestPairRow.holds Tryd.pinned (OpenSpec.ofChange fnExactDigestPairWrong)

/- THE SECOND FORM. 'bulk': how many values and letters a reading holds, each counted each time it is reached (what is shared counts as often as it is met; a slice's spare places count too). A statement '..UptoSaid' is the law's where the arguments, and the package variables that the reading takes, are together of bulk at most 1048576: NARROWER than '..Said'. Prove '..Said' where nothing that the law and all that it calls make is longer than what came in: it says more and counts as full. Else prove '..UptoSaid'. A law counts once. -/
mutual
def uptoBulk {H : Type} : DataW H → Nat
  | .lit (.string bytes) => bytes.length + 1
  | .lit _ => 1
  | .nil => 1
  | .ptr d => uptoBulk d + 1
  | .slice elems spare => uptoBulkAll elems + uptoBulkAll spare + 1
  | .agg parts => uptoBulkAll parts + 1
  | .iface _ d => uptoBulk d + 1
  | .map entries => uptoBulkEntries entries + 1
  | .held _ => 1
def uptoBulkAll {H : Type} : List (DataW H) → Nat
  | [] => 0
  | d :: r => uptoBulk d + uptoBulkAll r
def uptoBulkEntries {H : Type} : List (Lit × DataW H) → Nat
  | [] => 0
  | x :: r => uptoBulkEntry x + uptoBulkEntries r
def uptoBulkEntry {H : Type} : Lit × DataW H → Nat
  | (.string bytes, d) => bytes.length + uptoBulk d + 1
  | (_, d) => uptoBulk d + 1
 end
def uptoSmall : (H : Type) → List (DataW H) → Bool := fun _ ds => decide (uptoBulkAll ds ≤ 1048576)
def OpenSpec.upto (s : _root_.Go.ChangeSpec) : _root_.Go.OpenSpec := { _root_.Go.OpenSpec.ofChange s with cond := some uptoSmall }

/-- 'laws.FnExactDigest', WHERE WHAT IT READS IS OF BULK AT MOST 1048576: true; the input reads as it did. -/
def fnExactDigestUptoRow : OpenClaim := { program := "ythncegemhaofnabdoor", sum := "3149a65c3c1142e5ba1436b8a803a39c0ee6bec81c1a13386288e592a3c54d44", func := "loop.example/g00321/laws.FnExactDigest", spec := "fnExactDigest", named := ["loop.example/g00321/impl.roundWords"], apart := false, laid := [("loop.example/g00321/impl.roundWords", laid_loop_example_g00321_impl_roundWords)], narrowed := true }
def FnExactDigestUptoSaid : Prop := fnExactDigestUptoRow.holds Tryd.pinned (OpenSpec.upto fnExactDigestSpec)

/-- 'laws.FnExactDigestHex', WHERE WHAT IT READS IS OF BULK AT MOST 1048576: true; the input reads as it did. -/
def fnExactDigestHexUptoRow : OpenClaim := { program := "ythncegemhaofnabdoor", sum := "3149a65c3c1142e5ba1436b8a803a39c0ee6bec81c1a13386288e592a3c54d44", func := "loop.example/g00321/laws.FnExactDigestHex", spec := "fnExactDigestHex", named := ["loop.example/g00321/impl.roundWords"], apart := false, laid := [("loop.example/g00321/impl.roundWords", laid_loop_example_g00321_impl_roundWords)], narrowed := true }
def FnExactDigestHexUptoSaid : Prop := fnExactDigestHexUptoRow.holds Tryd.pinned (OpenSpec.upto fnExactDigestHexSpec)

/-- 'laws.FnExactDigestPair', WHERE WHAT IT READS IS OF BULK AT MOST 1048576: true; the input reads as it did. -/
def fnExactDigestPairUptoRow : OpenClaim := { program := "ythncegemhaofnabdoor", sum := "3149a65c3c1142e5ba1436b8a803a39c0ee6bec81c1a13386288e592a3c54d44", func := "loop.example/g00321/laws.FnExactDigestPair", spec := "fnExactDigestPair", named := ["loop.example/g00321/impl.roundWords"], apart := false, laid := [("loop.example/g00321/impl.roundWords", laid_loop_example_g00321_impl_roundWords)], narrowed := true }
def FnExactDigestPairUptoSaid : Prop := fnExactDigestPairUptoRow.holds Tryd.pinned (OpenSpec.upto fnExactDigestPairSpec)

end Rows
end Go.Proofs.YthncegemhaofnabDoor
