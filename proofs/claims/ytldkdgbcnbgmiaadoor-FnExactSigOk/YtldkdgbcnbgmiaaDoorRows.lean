/-
  NARROWER THAN 'FOR EVERY INPUT', by the rows' own cells (each row's printed sentence says how): FnExactHashPoint: laid · FnExactSignWith: laid · FnExactSigOk: laid.
  DERIVED. THE GIVEN ROWS OF THIS SEAT. 3 by the template 'for every input the law returns true; each argument reads behind the call as it read before'; 0 by the template 'total and deterministic' (their statements: YtldkdgbcnbgmiaaDoorTotals.lean).
  GIVEN WITH THE SEED: the statements are not yours to turn. If you find one false, say at which input.
  Laid BY PROGRAM, IN A SANDBOX (cutbox-rows.mjs): the forced cells as the released guide's own fill.sh prints them over the translation dafdfec751b55411… (all of the seat's roots in one cut). By AI agents, Wed Nov 11 2026. No macro, syntax, notation, axiom, sorry.
-/
import Derived.Test.YtldkdgbcnbgmiaaDoorChecked
import GoSem.Claim
import GoSem.ClaimJoined
import GoSem.ClaimMapViews
import Derived.JoinedTies
import Derived.KernelRfl
namespace Go.Proofs.YtldkdgbcnbgmiaaDoor
/- THE CELL 'sum', in the pinned program and in every row, IS THE sha256 OF THE DUMP (.gsa) THAT YtldkdgbcnbgmiaaDoorProg.lean LOADS. Nothing in Lean hashes anything: it is a label: what it is worth is what the hold of that sum in a sandbox is worth. -/
noncomputable def Tryd.pinned : Pinned := { name := "ytldkdgbcnbgmiaadoor", sum := "dafdfec751b554115bea80298691bcb3f43c4805430c4cc1581101a5366d022d", checked := Tryd.checked }
namespace Rows
def none {H : Type} : Left H := { results := [], args := [] }

/- WHAT THE LISTED PACKAGE-LEVEL VARIABLES READ AS WHEN THE CALL BEGINS. Each datum BY PROGRAM (the guide's laid-datum.mjs) off the statement by which the dump's own 'gosem.cut.vars' lays the variable. In a bare row this is a premise. The card (YtldkdgbcnbgmiaaDoorCards.lean) ties it to the program's text. -/
def laid_loop_example_g00321_impl_roundWords {H : Type} : DataW H := .agg [.lit (.int .u64 1), .lit (.int .u64 32898), .lit (.int .u64 9223372036854808714), .lit (.int .u64 9223372039002292224), .lit (.int .u64 32907), .lit (.int .u64 2147483649), .lit (.int .u64 9223372039002292353), .lit (.int .u64 9223372036854808585), .lit (.int .u64 138), .lit (.int .u64 136), .lit (.int .u64 2147516425), .lit (.int .u64 2147483658), .lit (.int .u64 2147516555), .lit (.int .u64 9223372036854775947), .lit (.int .u64 9223372036854808713), .lit (.int .u64 9223372036854808579), .lit (.int .u64 9223372036854808578), .lit (.int .u64 9223372036854775936), .lit (.int .u64 32778), .lit (.int .u64 9223372039002259466), .lit (.int .u64 9223372039002292353), .lit (.int .u64 9223372036854808704), .lit (.int .u64 2147483649), .lit (.int .u64 9223372039002292232)]

/-- 'laws.FnExactHashPoint': WHATEVER THE INPUT: true; the input reads as it did. -/
def fnExactHashPointSpec : ChangeSpec := { name := "fnExactHashPoint", vars := ["loop.example/g00321/impl.roundWords"], fn := fun _ => fun
  | [d, g1] => { results := [.lit (.bool true)], args := [d], vars := [g1] }
  | _ => none }
def fnExactHashPointRow : OpenClaim := { program := "ytldkdgbcnbgmiaadoor", sum := "dafdfec751b554115bea80298691bcb3f43c4805430c4cc1581101a5366d022d", func := "loop.example/g00321/laws.FnExactHashPoint", spec := "fnExactHashPoint", named := ["loop.example/g00321/impl.roundWords"], apart := false, laid := [("loop.example/g00321/impl.roundWords", laid_loop_example_g00321_impl_roundWords)] }
def FnExactHashPointSaid : Prop := fnExactHashPointRow.holds Tryd.pinned (OpenSpec.ofChange fnExactHashPointSpec)

/-- ITS FALSE NEIGHBOUR: 'it returns false'. Refute it at one input. -/
def fnExactHashPointWrong : ChangeSpec := { name := "fnExactHashPoint", vars := ["loop.example/g00321/impl.roundWords"], fn := fun _ => fun
  | [d, g1] => { results := [.lit (.bool false)], args := [d], vars := [g1] }
  | _ => none }
def FnExactHashPointWrongFalsely : Prop := fnExactHashPointRow.holds Tryd.pinned (OpenSpec.ofChange fnExactHashPointWrong)

/-- 'laws.FnExactSignWith': WHATEVER THE INPUT: true; the input reads as it did. -/
def fnExactSignWithSpec : ChangeSpec := { name := "fnExactSignWith", vars := ["loop.example/g00321/impl.roundWords"], fn := fun _ => fun
  | [d1, d2, g1] => { results := [.lit (.bool true)], args := [d1, d2], vars := [g1] }
  | _ => none }
def fnExactSignWithRow : OpenClaim := { program := "ytldkdgbcnbgmiaadoor", sum := "dafdfec751b554115bea80298691bcb3f43c4805430c4cc1581101a5366d022d", func := "loop.example/g00321/laws.FnExactSignWith", spec := "fnExactSignWith", named := ["loop.example/g00321/impl.roundWords"], apart := false, laid := [("loop.example/g00321/impl.roundWords", laid_loop_example_g00321_impl_roundWords)] }
def FnExactSignWithSaid : Prop := fnExactSignWithRow.holds Tryd.pinned (OpenSpec.ofChange fnExactSignWithSpec)

/-- ITS FALSE NEIGHBOUR: 'it returns false'. Refute it at one input. -/
def fnExactSignWithWrong : ChangeSpec := { name := "fnExactSignWith", vars := ["loop.example/g00321/impl.roundWords"], fn := fun _ => fun
  | [d1, d2, g1] => { results := [.lit (.bool false)], args := [d1, d2], vars := [g1] }
  | _ => none }
def FnExactSignWithWrongFalsely : Prop := fnExactSignWithRow.holds Tryd.pinned (OpenSpec.ofChange fnExactSignWithWrong)

/-- 'laws.FnExactSigOk': WHATEVER THE INPUT: true; the input reads as it did. -/
def fnExactSigOkSpec : ChangeSpec := { name := "fnExactSigOk", vars := ["loop.example/g00321/impl.roundWords"], fn := fun _ => fun
  | [d1, d2, d3, g1] => { results := [.lit (.bool true)], args := [d1, d2, d3], vars := [g1] }
  | _ => none }
def fnExactSigOkRow : OpenClaim := { program := "ytldkdgbcnbgmiaadoor", sum := "dafdfec751b554115bea80298691bcb3f43c4805430c4cc1581101a5366d022d", func := "loop.example/g00321/laws.FnExactSigOk", spec := "fnExactSigOk", unfollowed := true, recurses := true, named := ["loop.example/g00321/impl.roundWords"], apart := false, laid := [("loop.example/g00321/impl.roundWords", laid_loop_example_g00321_impl_roundWords)] }
def FnExactSigOkSaid : Prop := fnExactSigOkRow.holds Tryd.pinned (OpenSpec.ofChange fnExactSigOkSpec)

/-- ITS FALSE NEIGHBOUR: 'it returns false'. Refute it at one input. -/
def fnExactSigOkWrong : ChangeSpec := { name := "fnExactSigOk", vars := ["loop.example/g00321/impl.roundWords"], fn := fun _ => fun
  | [d1, d2, d3, g1] => { results := [.lit (.bool false)], args := [d1, d2, d3], vars := [g1] }
  | _ => none }
def FnExactSigOkWrongFalsely : Prop := fnExactSigOkRow.holds Tryd.pinned (OpenSpec.ofChange fnExactSigOkWrong)

/- THE SECOND FORM. 'bulk': how many values and letters a reading holds, each counted each time it is reached (what is shared counts as often as it is met; a slice's spare places count too). A statement '..UptoSaid' is the law's where the arguments, and the package variables that the reading takes, are together of bulk at most 1048576: NARROWER than '..Said'. Prove '..Said' where nothing that the law and all that it calls make is longer than what came in: it says more and counts as full. Else prove '..UptoSaid'. A law counts once. -/
mutual
def uptoBulk {H : Type} : DataW H → Nat
  | .lit (.string bytes) => bytes.length + 1
  | .lit _ => 1
  | .nil => 1
  | .ptr d => uptoBulk d + 1
  | .slice elems spare => uptoBulkAll elems + uptoBulkAll spare + 1
  | .agg parts => uptoBulkAll parts + 1
  | .iface _ d => uptoBulk d + 1
  | .map entries => uptoBulkEntries entries + 1
  | .held _ => 1
def uptoBulkAll {H : Type} : List (DataW H) → Nat
  | [] => 0
  | d :: r => uptoBulk d + uptoBulkAll r
def uptoBulkEntries {H : Type} : List (Lit × DataW H) → Nat
  | [] => 0
  | x :: r => uptoBulkEntry x + uptoBulkEntries r
def uptoBulkEntry {H : Type} : Lit × DataW H → Nat
  | (.string bytes, d) => bytes.length + uptoBulk d + 1
  | (_, d) => uptoBulk d + 1
 end
def uptoSmall : (H : Type) → List (DataW H) → Bool := fun _ ds => decide (uptoBulkAll ds ≤ 1048576)
def OpenSpec.upto (s : _root_.Go.ChangeSpec) : _root_.Go.OpenSpec := { _root_.Go.OpenSpec.ofChange s with cond := some uptoSmall }

/-- 'laws.FnExactHashPoint', WHERE WHAT IT READS IS OF BULK AT MOST 1048576: true; the input reads as it did. -/
def fnExactHashPointUptoRow : OpenClaim := { program := "ytldkdgbcnbgmiaadoor", sum := "dafdfec751b554115bea80298691bcb3f43c4805430c4cc1581101a5366d022d", func := "loop.example/g00321/laws.FnExactHashPoint", spec := "fnExactHashPoint", named := ["loop.example/g00321/impl.roundWords"], apart := false, laid := [("loop.example/g00321/impl.roundWords", laid_loop_example_g00321_impl_roundWords)], narrowed := true }
def FnExactHashPointUptoSaid : Prop := fnExactHashPointUptoRow.holds Tryd.pinned (OpenSpec.upto fnExactHashPointSpec)

/-- 'laws.FnExactSignWith', WHERE WHAT IT READS IS OF BULK AT MOST 1048576: true; the input reads as it did. -/
def fnExactSignWithUptoRow : OpenClaim := { program := "ytldkdgbcnbgmiaadoor", sum := "dafdfec751b554115bea80298691bcb3f43c4805430c4cc1581101a5366d022d", func := "loop.example/g00321/laws.FnExactSignWith", spec := "fnExactSignWith", named := ["loop.example/g00321/impl.roundWords"], apart := false, laid := [("loop.example/g00321/impl.roundWords", laid_loop_example_g00321_impl_roundWords)], narrowed := true }
def FnExactSignWithUptoSaid : Prop := fnExactSignWithUptoRow.holds Tryd.pinned (OpenSpec.upto fnExactSignWithSpec)

/-- 'laws.FnExactSigOk', WHERE WHAT IT READS IS OF BULK AT MOST 1048576: true; the input reads as it did. -/
def fnExactSigOkUptoRow : OpenClaim := { program := "ytldkdgbcnbgmiaadoor", sum := "dafdfec751b554115bea80298691bcb3f43c4805430c4cc1581101a5366d022d", func := "loop.example/g00321/laws.FnExactSigOk", spec := "fnExactSigOk", unfollowed := true, recurses := true, named := ["loop.example/g00321/impl.roundWords"], apart := false, laid := [("loop.example/g00321/impl.roundWords", laid_loop_example_g00321_impl_roundWords)], narrowed := true }
def FnExactSigOkUptoSaid : Prop := fnExactSigOkUptoRow.holds Tryd.pinned (OpenSpec.upto fnExactSigOkSpec)

end Rows
end Go.Proofs.YtldkdgbcnbgmiaaDoor
