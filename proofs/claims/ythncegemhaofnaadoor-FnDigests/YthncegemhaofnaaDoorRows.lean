/-
  NARROWER THAN 'FOR EVERY INPUT', by the rows' own cells (each row's printed sentence says how): FnDigests: laid · FnRounds: laid · FnExactKeccakRound: laid · FnExactKeccakF: laid.
  DERIVED. THE GIVEN ROWS OF THIS SEAT. 4 by the template 'for every input the law returns true; each argument reads behind the call as it read before'; 0 by the template 'total and deterministic' (their statements: YthncegemhaofnaaDoorTotals.lean).
  GIVEN WITH THE SEED: the statements are not yours to turn. If you find one false, say at which input.
  Laid BY PROGRAM, IN A SANDBOX (cutbox-rows.mjs): the forced cells as the released guide's own fill.sh prints them over the translation 3e0a5ada8056a52b… (all of the seat's roots in one cut). By AI agents, Wed Nov 11 2026. No macro, syntax, notation, axiom, sorry.
-/
import Derived.Test.YthncegemhaofnaaDoorChecked
import GoSem.Claim
import GoSem.ClaimJoined
import GoSem.ClaimMapViews
import Derived.JoinedTies
import Derived.KernelRfl
namespace Go.Proofs.YthncegemhaofnaaDoor
/- THE CELL 'sum', in the pinned program and in every row, IS THE sha256 OF THE DUMP (.gsa) THAT YthncegemhaofnaaDoorProg.lean LOADS. Nothing in Lean hashes anything: it is a label: what it is worth is what the hold of that sum in a sandbox is worth. -/
noncomputable def Tryd.pinned : Pinned := { name := "ythncegemhaofnaadoor", sum := "3e0a5ada8056a52bf2107566b1214a5b7a395fcb0ec89cf6336ff0b3c4ceae49", checked := Tryd.checked }
namespace Rows
def none {H : Type} : Left H := { results := [], args := [] }

/- WHAT THE LISTED PACKAGE-LEVEL VARIABLES READ AS WHEN THE CALL BEGINS. Each datum BY PROGRAM (the guide's laid-datum.mjs) off the statement by which the dump's own 'gosem.cut.vars' lays the variable. In a bare row this is a premise. The card (YthncegemhaofnaaDoorCards.lean) ties it to the program's text. -/
def laid_loop_example_g00321_impl_roundWords {H : Type} : DataW H := .agg [.lit (.int .u64 1), .lit (.int .u64 32898), .lit (.int .u64 9223372036854808714), .lit (.int .u64 9223372039002292224), .lit (.int .u64 32907), .lit (.int .u64 2147483649), .lit (.int .u64 9223372039002292353), .lit (.int .u64 9223372036854808585), .lit (.int .u64 138), .lit (.int .u64 136), .lit (.int .u64 2147516425), .lit (.int .u64 2147483658), .lit (.int .u64 2147516555), .lit (.int .u64 9223372036854775947), .lit (.int .u64 9223372036854808713), .lit (.int .u64 9223372036854808579), .lit (.int .u64 9223372036854808578), .lit (.int .u64 9223372036854775936), .lit (.int .u64 32778), .lit (.int .u64 9223372039002259466), .lit (.int .u64 9223372039002292353), .lit (.int .u64 9223372036854808704), .lit (.int .u64 2147483649), .lit (.int .u64 9223372039002292232)]

/-- 'laws.FnDigests': WHATEVER THE INPUT: true; the input reads as it did. -/
def fnDigestsSpec : ChangeSpec := { name := "fnDigests", vars := ["loop.example/g00321/impl.roundWords"], fn := fun _ => fun
  | [d, g1] => { results := [.lit (.bool true)], args := [d], vars := [g1] }
  | _ => none }
def fnDigestsRow : OpenClaim := { program := "ythncegemhaofnaadoor", sum := "3e0a5ada8056a52bf2107566b1214a5b7a395fcb0ec89cf6336ff0b3c4ceae49", func := "loop.example/g00321/laws.FnDigests", spec := "fnDigests", named := ["loop.example/g00321/impl.roundWords"], apart := false, laid := [("loop.example/g00321/impl.roundWords", laid_loop_example_g00321_impl_roundWords)] }
def FnDigestsSaid : Prop := fnDigestsRow.holds Tryd.pinned (OpenSpec.ofChange fnDigestsSpec)

/-- ITS FALSE NEIGHBOUR: 'it returns false'. Refute it at one input. -/
def fnDigestsWrong : ChangeSpec := { name := "fnDigests", vars := ["loop.example/g00321/impl.roundWords"], fn := fun _ => fun
  | [d, g1] => { results := [.lit (.bool false)], args := [d], vars := [g1] }
  | _ => none }
def FnDigestsWrongFalsely : Prop := fnDigestsRow.holds Tryd.pinned (OpenSpec.ofChange fnDigestsWrong)

/-- 'laws.FnRounds': WHATEVER THE INPUT: true; the input reads as it did. -/
def fnRoundsSpec : ChangeSpec := { name := "fnRounds", vars := ["loop.example/g00321/impl.roundWords"], fn := fun _ => fun
  | [d, g1] => { results := [.lit (.bool true)], args := [d], vars := [g1] }
  | _ => none }
def fnRoundsRow : OpenClaim := { program := "ythncegemhaofnaadoor", sum := "3e0a5ada8056a52bf2107566b1214a5b7a395fcb0ec89cf6336ff0b3c4ceae49", func := "loop.example/g00321/laws.FnRounds", spec := "fnRounds", named := ["loop.example/g00321/impl.roundWords"], apart := false, laid := [("loop.example/g00321/impl.roundWords", laid_loop_example_g00321_impl_roundWords)] }
def FnRoundsSaid : Prop := fnRoundsRow.holds Tryd.pinned (OpenSpec.ofChange fnRoundsSpec)

/-- ITS FALSE NEIGHBOUR: 'it returns false'. Refute it at one input. -/
def fnRoundsWrong : ChangeSpec := { name := "fnRounds", vars := ["loop.example/g00321/impl.roundWords"], fn := fun _ => fun
  | [d, g1] => { results := [.lit (.bool false)], args := [d], vars := [g1] }
  | _ => none }
def FnRoundsWrongFalsely : Prop := fnRoundsRow.holds Tryd.pinned (OpenSpec.ofChange fnRoundsWrong)

/-- 'laws.FnExactKeccakRound': WHATEVER THE INPUT: true; the input reads as it did. -/
def fnExactKeccakRoundSpec : ChangeSpec := { name := "fnExactKeccakRound", vars := ["loop.example/g00321/impl.roundWords"], fn := fun _ => fun
  | [d1, d2, g1] => { results := [.lit (.bool true)], args := [d1, d2], vars := [g1] }
  | _ => none }
def fnExactKeccakRoundRow : OpenClaim := { program := "ythncegemhaofnaadoor", sum := "3e0a5ada8056a52bf2107566b1214a5b7a395fcb0ec89cf6336ff0b3c4ceae49", func := "loop.example/g00321/laws.FnExactKeccakRound", spec := "fnExactKeccakRound", named := ["loop.example/g00321/impl.roundWords"], apart := false, laid := [("loop.example/g00321/impl.roundWords", laid_loop_example_g00321_impl_roundWords)] }
def FnExactKeccakRoundSaid : Prop := fnExactKeccakRoundRow.holds Tryd.pinned (OpenSpec.ofChange fnExactKeccakRoundSpec)

/-- ITS FALSE NEIGHBOUR: 'it returns false'. Refute it at one input. -/
def fnExactKeccakRoundWrong : ChangeSpec := { name := "fnExactKeccakRound", vars := ["loop.example/g00321/impl.roundWords"], fn := fun _ => fun
  | [d1, d2, g1] => { results := [.lit (.bool false)], args := [d1, d2], vars := [g1] }
  | _ => none }
def FnExactKeccakRoundWrongFalsely : Prop := fnExactKeccakRoundRow.holds Tryd.pinned (OpenSpec.ofChange fnExactKeccakRoundWrong)

/-- 'laws.FnExactKeccakF': WHATEVER THE INPUT: true; the input reads as it did. -/
def fnExactKeccakFSpec : ChangeSpec := { name := "fnExactKeccakF", vars := ["loop.example/g00321/impl.roundWords"], fn := fun _ => fun
  | [d, g1] => { results := [.lit (.bool true)], args := [d], vars := [g1] }
  | _ => none }
def fnExactKeccakFRow : OpenClaim := { program := "ythncegemhaofnaadoor", sum := "3e0a5ada8056a52bf2107566b1214a5b7a395fcb0ec89cf6336ff0b3c4ceae49", func := "loop.example/g00321/laws.FnExactKeccakF", spec := "fnExactKeccakF", named := ["loop.example/g00321/impl.roundWords"], apart := false, laid := [("loop.example/g00321/impl.roundWords", laid_loop_example_g00321_impl_roundWords)] }
def FnExactKeccakFSaid : Prop := fnExactKeccakFRow.holds Tryd.pinned (OpenSpec.ofChange fnExactKeccakFSpec)

/-- ITS FALSE NEIGHBOUR: 'it returns false'. Refute it at one input. -/
def fnExactKeccakFWrong : ChangeSpec := { name := "fnExactKeccakF", vars := ["loop.example/g00321/impl.roundWords"], fn := fun _ => fun
  | [d, g1] => { results := [.lit (.bool false)], args := [d], vars := [g1] }
  | _ => none }
def FnExactKeccakFWrongFalsely : Prop := fnExactKeccakFRow.holds Tryd.pinned (OpenSpec.ofChange fnExactKeccakFWrong)

/- THE SECOND FORM. 'bulk': how many values and letters a reading holds, each counted each time it is reached (what is shared counts as often as it is met; a slice's spare places count too). A statement '..UptoSaid' is the law's where the arguments, and the package variables that the reading takes, are together of bulk at most 1048576: NARROWER than '..Said'. Prove '..Said' where nothing that the law and all that it calls make is longer than what came in: it says more and counts as full. Else prove '..UptoSaid'. A law counts once. -/
mutual
def uptoBulk {H : Type} : DataW H → Nat
  | .lit (.string bytes) => bytes.length + 1
  | .lit _ => 1
  | .nil => 1
  | .ptr d => uptoBulk d + 1
  | .slice elems spare => uptoBulkAll elems + uptoBulkAll spare + 1
  | .agg parts => uptoBulkAll parts + 1
  | .iface _ d => uptoBulk d + 1
  | .map entries => uptoBulkEntries entries + 1
  | .held _ => 1
def uptoBulkAll {H : Type} : List (DataW H) → Nat
  | [] => 0
  | d :: r => uptoBulk d + uptoBulkAll r
def uptoBulkEntries {H : Type} : List (Lit × DataW H) → Nat
  | [] => 0
  | x :: r => uptoBulkEntry x + uptoBulkEntries r
def uptoBulkEntry {H : Type} : Lit × DataW H → Nat
  | (.string bytes, d) => bytes.length + uptoBulk d + 1
  | (_, d) => uptoBulk d + 1
 end
def uptoSmall : (H : Type) → List (DataW H) → Bool := fun _ ds => decide (uptoBulkAll ds ≤ 1048576)
def OpenSpec.upto (s : _root_.Go.ChangeSpec) : _root_.Go.OpenSpec := { _root_.Go.OpenSpec.ofChange s with cond := some uptoSmall }

/-- 'laws.FnDigests', WHERE WHAT IT READS IS OF BULK AT MOST 1048576: true; the input reads as it did. -/
def fnDigestsUptoRow : OpenClaim := { program := "ythncegemhaofnaadoor", sum := "3e0a5ada8056a52bf2107566b1214a5b7a395fcb0ec89cf6336ff0b3c4ceae49", func := "loop.example/g00321/laws.FnDigests", spec := "fnDigests", named := ["loop.example/g00321/impl.roundWords"], apart := false, laid := [("loop.example/g00321/impl.roundWords", laid_loop_example_g00321_impl_roundWords)], narrowed := true }
def FnDigestsUptoSaid : Prop := fnDigestsUptoRow.holds Tryd.pinned (OpenSpec.upto fnDigestsSpec)

/-- 'laws.FnRounds', WHERE WHAT IT READS IS OF BULK AT MOST 1048576: true; the input reads as it did. -/
def fnRoundsUptoRow : OpenClaim := { program := "ythncegemhaofnaadoor", sum := "3e0a5ada8056a52bf2107566b1214a5b7a395fcb0ec89cf6336ff0b3c4ceae49", func := "loop.example/g00321/laws.FnRounds", spec := "fnRounds", named := ["loop.example/g00321/impl.roundWords"], apart := false, laid := [("loop.example/g00321/impl.roundWords", laid_loop_example_g00321_impl_roundWords)], narrowed := true }
def FnRoundsUptoSaid : Prop := fnRoundsUptoRow.holds Tryd.pinned (OpenSpec.upto fnRoundsSpec)

/-- 'laws.FnExactKeccakRound', WHERE WHAT IT READS IS OF BULK AT MOST 1048576: true; the input reads as it did. -/
def fnExactKeccakRoundUptoRow : OpenClaim := { program := "ythncegemhaofnaadoor", sum := "3e0a5ada8056a52bf2107566b1214a5b7a395fcb0ec89cf6336ff0b3c4ceae49", func := "loop.example/g00321/laws.FnExactKeccakRound", spec := "fnExactKeccakRound", named := ["loop.example/g00321/impl.roundWords"], apart := false, laid := [("loop.example/g00321/impl.roundWords", laid_loop_example_g00321_impl_roundWords)], narrowed := true }
def FnExactKeccakRoundUptoSaid : Prop := fnExactKeccakRoundUptoRow.holds Tryd.pinned (OpenSpec.upto fnExactKeccakRoundSpec)

/-- 'laws.FnExactKeccakF', WHERE WHAT IT READS IS OF BULK AT MOST 1048576: true; the input reads as it did. -/
def fnExactKeccakFUptoRow : OpenClaim := { program := "ythncegemhaofnaadoor", sum := "3e0a5ada8056a52bf2107566b1214a5b7a395fcb0ec89cf6336ff0b3c4ceae49", func := "loop.example/g00321/laws.FnExactKeccakF", spec := "fnExactKeccakF", named := ["loop.example/g00321/impl.roundWords"], apart := false, laid := [("loop.example/g00321/impl.roundWords", laid_loop_example_g00321_impl_roundWords)], narrowed := true }
def FnExactKeccakFUptoSaid : Prop := fnExactKeccakFUptoRow.holds Tryd.pinned (OpenSpec.upto fnExactKeccakFSpec)

end Rows
end Go.Proofs.YthncegemhaofnaaDoor
