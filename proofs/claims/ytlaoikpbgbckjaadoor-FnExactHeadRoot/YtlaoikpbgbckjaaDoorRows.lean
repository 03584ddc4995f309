/-
  NARROWER THAN 'FOR EVERY INPUT', by the rows' own cells (each row's printed sentence says how): FnHeads: laid · FnExactHeadRoot: laid · FnExactSigText: laid.
  DERIVED. THE GIVEN ROWS OF THIS SEAT. 3 by the template 'for every input the law returns true; each argument reads behind the call as it read before'; 0 by the template 'total and deterministic' (their statements: YtlaoikpbgbckjaaDoorTotals.lean).
  GIVEN WITH THE SEED: the statements are not yours to turn. If you find one false, say at which input.
  Laid BY PROGRAM, IN A SANDBOX (cutbox-rows.mjs): the forced cells as the released guide's own fill.sh prints them over the translation 092a574bc13004f1… (all of the seat's roots in one cut). By AI agents, Wed Nov 11 2026. No macro, syntax, notation, axiom, sorry.
-/
import Derived.Test.YtlaoikpbgbckjaaDoorChecked
import GoSem.Claim
import GoSem.ClaimJoined
import GoSem.ClaimMapViews
import Derived.JoinedTies
import Derived.KernelRfl
namespace Go.Proofs.YtlaoikpbgbckjaaDoor
/- THE CELL 'sum', in the pinned program and in every row, IS THE sha256 OF THE DUMP (.gsa) THAT YtlaoikpbgbckjaaDoorProg.lean LOADS. Nothing in Lean hashes anything: it is a label: what it is worth is what the hold of that sum in a sandbox is worth. -/
noncomputable def Tryd.pinned : Pinned := { name := "ytlaoikpbgbckjaadoor", sum := "092a574bc13004f17d16cbb55c323ff0171142dc8480b56c5e5e0e0d05dc649d", checked := Tryd.checked }
namespace Rows
def none {H : Type} : Left H := { results := [], args := [] }

/- WHAT THE LISTED PACKAGE-LEVEL VARIABLES READ AS WHEN THE CALL BEGINS. Each datum BY PROGRAM (the guide's laid-datum.mjs) off the statement by which the dump's own 'gosem.cut.vars' lays the variable. In a bare row this is a premise. The card (YtlaoikpbgbckjaaDoorCards.lean) ties it to the program's text. -/
def laid_loop_example_g00321_impl_roundWords {H : Type} : DataW H := .agg [.lit (.int .u64 1), .lit (.int .u64 32898), .lit (.int .u64 9223372036854808714), .lit (.int .u64 9223372039002292224), .lit (.int .u64 32907), .lit (.int .u64 2147483649), .lit (.int .u64 9223372039002292353), .lit (.int .u64 9223372036854808585), .lit (.int .u64 138), .lit (.int .u64 136), .lit (.int .u64 2147516425), .lit (.int .u64 2147483658), .lit (.int .u64 2147516555), .lit (.int .u64 9223372036854775947), .lit (.int .u64 9223372036854808713), .lit (.int .u64 9223372036854808579), .lit (.int .u64 9223372036854808578), .lit (.int .u64 9223372036854775936), .lit (.int .u64 32778), .lit (.int .u64 9223372039002259466), .lit (.int .u64 9223372039002292353), .lit (.int .u64 9223372036854808704), .lit (.int .u64 2147483649), .lit (.int .u64 9223372039002292232)]

/-- 'laws.FnHeads': WHATEVER THE INPUT: true; the input reads as it did. -/
def fnHeadsSpec : ChangeSpec := { name := "fnHeads", vars := ["loop.example/g00321/impl.roundWords"], fn := fun _ => fun
  | [d, g1] => { results := [.lit (.bool true)], args := [d], vars := [g1] }
  | _ => none }
def fnHeadsRow : OpenClaim := { program := "ytlaoikpbgbckjaadoor", sum := "092a574bc13004f17d16cbb55c323ff0171142dc8480b56c5e5e0e0d05dc649d", func := "loop.example/g00321/laws.FnHeads", spec := "fnHeads", inPlace := ["internal/abi.NoEscape", "internal/bytealg.MakeNoZero"], named := ["loop.example/g00321/impl.roundWords"], apart := false, laid := [("loop.example/g00321/impl.roundWords", laid_loop_example_g00321_impl_roundWords)] }
def FnHeadsSaid : Prop := fnHeadsRow.holds Tryd.pinned (OpenSpec.ofChange fnHeadsSpec)

/-- ITS FALSE NEIGHBOUR: 'it returns false'. Refute it at one input. -/
def fnHeadsWrong : ChangeSpec := { name := "fnHeads", vars := ["loop.example/g00321/impl.roundWords"], fn := fun _ => fun
  | [d, g1] => { results := [.lit (.bool false)], args := [d], vars := [g1] }
  | _ => none }
def FnHeadsWrongFalsely : Prop := fnHeadsRow.holds Tryd.pinned (OpenSpec.ofChange fnHeadsWrong)

/-- 'laws.FnExactHeadRoot': WHATEVER THE INPUT: true; the input reads as it did. -/
def fnExactHeadRootSpec : ChangeSpec := { name := "fnExactHeadRoot", vars := ["loop.example/g00321/impl.roundWords"], fn := fun _ => fun
  | [d, g1] => { results := [.lit (.bool true)], args := [d], vars := [g1] }
  | _ => none }
def fnExactHeadRootRow : OpenClaim := { program := "ytlaoikpbgbckjaadoor", sum := "092a574bc13004f17d16cbb55c323ff0171142dc8480b56c5e5e0e0d05dc649d", func := "loop.example/g00321/laws.FnExactHeadRoot", spec := "fnExactHeadRoot", named := ["loop.example/g00321/impl.roundWords"], apart := false, laid := [("loop.example/g00321/impl.roundWords", laid_loop_example_g00321_impl_roundWords)] }
def FnExactHeadRootSaid : Prop := fnExactHeadRootRow.holds Tryd.pinned (OpenSpec.ofChange fnExactHeadRootSpec)

/-- ITS FALSE NEIGHBOUR: 'it returns false'. Refute it at one input. -/
def fnExactHeadRootWrong : ChangeSpec := { name := "fnExactHeadRoot", vars := ["loop.example/g00321/impl.roundWords"], fn := fun _ => fun
  | [d, g1] => { results := [.lit (.bool false)], args := [d], vars := [g1] }
  | _ => none }
def FnExactHeadRootWrongFalsely : Prop := fnExactHeadRootRow.holds Tryd.pinned (OpenSpec.ofChange fnExactHeadRootWrong)

/-- 'laws.FnExactSigText': WHATEVER THE INPUT: true; the input reads as it did. -/
def fnExactSigTextSpec : ChangeSpec := { name := "fnExactSigText", vars := ["loop.example/g00321/impl.roundWords"], fn := fun _ => fun
  | [d1, d2, g1] => { results := [.lit (.bool true)], args := [d1, d2], vars := [g1] }
  | _ => none }
def fnExactSigTextRow : OpenClaim := { program := "ytlaoikpbgbckjaadoor", sum := "092a574bc13004f17d16cbb55c323ff0171142dc8480b56c5e5e0e0d05dc649d", func := "loop.example/g00321/laws.FnExactSigText", spec := "fnExactSigText", named := ["loop.example/g00321/impl.roundWords"], apart := false, laid := [("loop.example/g00321/impl.roundWords", laid_loop_example_g00321_impl_roundWords)] }
def FnExactSigTextSaid : Prop := fnExactSigTextRow.holds Tryd.pinned (OpenSpec.ofChange fnExactSigTextSpec)

/-- ITS FALSE NEIGHBOUR: 'it returns false'. Refute it at one input. -/
def fnExactSigTextWrong : ChangeSpec := { name := "fnExactSigText", vars := ["loop.example/g00321/impl.roundWords"], fn := fun _ => fun
  | [d1, d2, g1] => { results := [.lit (.bool false)], args := [d1, d2], vars := [g1] }
  | _ => none }
def FnExactSigTextWrongFalsely : Prop := fnExactSigTextRow.holds Tryd.pinned (OpenSpec.ofChange fnExactSigTextWrong)

/- THE SECOND FORM. 'bulk': how many values and letters a reading holds, each counted each time it is reached (what is shared counts as often as it is met; a slice's spare places count too). A statement '..UptoSaid' is the law's where the arguments, and the package variables that the reading takes, are together of bulk at most 1048576: NARROWER than '..Said'. Prove '..Said' where nothing that the law and all that it calls make is longer than what came in: it says more and counts as full. Else prove '..UptoSaid'. A law counts once. -/
mutual
def uptoBulk {H : Type} : DataW H → Nat
  | .lit (.string bytes) => bytes.length + 1
  | .lit _ => 1
  | .nil => 1
  | .ptr d => uptoBulk d + 1
  | .slice elems spare => uptoBulkAll elems + uptoBulkAll spare + 1
  | .agg parts => uptoBulkAll parts + 1
  | .iface _ d => uptoBulk d + 1
  | .map entries => uptoBulkEntries entries + 1
  | .held _ => 1
def uptoBulkAll {H : Type} : List (DataW H) → Nat
  | [] => 0
  | d :: r => uptoBulk d + uptoBulkAll r
def uptoBulkEntries {H : Type} : List (Lit × DataW H) → Nat
  | [] => 0
  | x :: r => uptoBulkEntry x + uptoBulkEntries r
def uptoBulkEntry {H : Type} : Lit × DataW H → Nat
  | (.string bytes, d) => bytes.length + uptoBulk d + 1
  | (_, d) => uptoBulk d + 1
 end
def uptoSmall : (H : Type) → List (DataW H) → Bool := fun _ ds => decide (uptoBulkAll ds ≤ 1048576)
def OpenSpec.upto (s : _root_.Go.ChangeSpec) : _root_.Go.OpenSpec := { _root_.Go.OpenSpec.ofChange s with cond := some uptoSmall }

/-- 'laws.FnHeads', WHERE WHAT IT READS IS OF BULK AT MOST 1048576: true; the input reads as it did. -/
def fnHeadsUptoRow : OpenClaim := { program := "ytlaoikpbgbckjaadoor", sum := "092a574bc13004f17d16cbb55c323ff0171142dc8480b56c5e5e0e0d05dc649d", func := "loop.example/g00321/laws.FnHeads", spec := "fnHeads", inPlace := ["internal/abi.NoEscape", "internal/bytealg.MakeNoZero"], named := ["loop.example/g00321/impl.roundWords"], apart := false, laid := [("loop.example/g00321/impl.roundWords", laid_loop_example_g00321_impl_roundWords)], narrowed := true }
def FnHeadsUptoSaid : Prop := fnHeadsUptoRow.holds Tryd.pinned (OpenSpec.upto fnHeadsSpec)

/-- 'laws.FnExactHeadRoot', WHERE WHAT IT READS IS OF BULK AT MOST 1048576: true; the input reads as it did. -/
def fnExactHeadRootUptoRow : OpenClaim := { program := "ytlaoikpbgbckjaadoor", sum := "092a574bc13004f17d16cbb55c323ff0171142dc8480b56c5e5e0e0d05dc649d", func := "loop.example/g00321/laws.FnExactHeadRoot", spec := "fnExactHeadRoot", named := ["loop.example/g00321/impl.roundWords"], apart := false, laid := [("loop.example/g00321/impl.roundWords", laid_loop_example_g00321_impl_roundWords)], narrowed := true }
def FnExactHeadRootUptoSaid : Prop := fnExactHeadRootUptoRow.holds Tryd.pinned (OpenSpec.upto fnExactHeadRootSpec)

/-- 'laws.FnExactSigText', WHERE WHAT IT READS IS OF BULK AT MOST 1048576: true; the input reads as it did. -/
def fnExactSigTextUptoRow : OpenClaim := { program := "ytlaoikpbgbckjaadoor", sum := "092a574bc13004f17d16cbb55c323ff0171142dc8480b56c5e5e0e0d05dc649d", func := "loop.example/g00321/laws.FnExactSigText", spec := "fnExactSigText", named := ["loop.example/g00321/impl.roundWords"], apart := false, laid := [("loop.example/g00321/impl.roundWords", laid_loop_example_g00321_impl_roundWords)], narrowed := true }
def FnExactSigTextUptoSaid : Prop := fnExactSigTextUptoRow.holds Tryd.pinned (OpenSpec.upto fnExactSigTextSpec)

end Rows
end Go.Proofs.YtlaoikpbgbckjaaDoor
