/-
  No cell of these rows narrows 'for every input' (looked for: loops, veiled, ifaces, maps, wideKeys, modest, calm, conditions, laid).
  DERIVED. THE GIVEN ROWS OF THIS SEAT. 4 by the template 'for every input the law returns true; each argument reads behind the call as it read before'; 0 by the template 'total and deterministic' (their statements: YtfiflcedbejamabTotals.lean).
  GIVEN WITH THE SEED: the statements are not yours to turn. If you find one false, say at which input.
  Laid BY PROGRAM, IN A SANDBOX (cutbox-rows.mjs): the forced cells as the released guide's own fill.sh prints them over the translation dfad11ccf2e1393c… (all of the seat's roots in one cut). By AI agents, Wed Nov 11 2026. No macro, syntax, notation, axiom, sorry.
-/
import Derived.Test.YtfiflcedbejamabChecked
import GoSem.Claim
import GoSem.ClaimJoined
import GoSem.ClaimMapViews
import Derived.JoinedTies
import Derived.KernelRfl
namespace Go.Proofs.Ytfiflcedbejamab
/- THE CELL 'sum', in the pinned program and in every row, IS THE sha256 OF THE DUMP (.gsa) THAT YtfiflcedbejamabProg.lean LOADS. Nothing in Lean hashes anything: it is a label: what it is worth is what the hold of that sum in a sandbox is worth. -/
noncomputable def Try.pinned : Pinned := { name := "ytfiflcedbejamab", sum := "dfad11ccf2e1393c23ece4cb7b078beaca6864efdce456afb046e503b3fe81f6", checked := Try.checked }
namespace Rows
def none {H : Type} : Left H := { results := [], args := [] }

/-- 'laws.FnExactPolyAt': WHATEVER THE INPUT: true; the input reads as it did. -/
def fnExactPolyAtSpec : ChangeSpec := { name := "fnExactPolyAt", fn := fun _ => fun
  | [d1, d2] => { results := [.lit (.bool true)], args := [d1, d2] }
  | _ => none }
def fnExactPolyAtRow : OpenClaim := { program := "ytfiflcedbejamab", sum := "dfad11ccf2e1393c23ece4cb7b078beaca6864efdce456afb046e503b3fe81f6", func := "loop.example/g00321/laws.FnExactPolyAt", spec := "fnExactPolyAt", apart := false }
def FnExactPolyAtSaid : Prop := fnExactPolyAtRow.holds Try.pinned (OpenSpec.ofChange fnExactPolyAtSpec)

/-- ITS FALSE NEIGHBOUR: 'it returns false'. Refute it at one input. -/
def fnExactPolyAtWrong : ChangeSpec := { name := "fnExactPolyAt", fn := fun _ => fun
  | [d1, d2] => { results := [.lit (.bool false)], args := [d1, d2] }
  | _ => none }
def FnExactPolyAtWrongFalsely : Prop := fnExactPolyAtRow.holds Try.pinned (OpenSpec.ofChange fnExactPolyAtWrong)

/-- 'laws.FnExactPolyThrough': WHATEVER THE INPUT: true; the input reads as it did. -/
def fnExactPolyThroughSpec : ChangeSpec := { name := "fnExactPolyThrough", fn := fun _ => fun
  | [d] => { results := [.lit (.bool true)], args := [d] }
  | _ => none }
def fnExactPolyThroughRow : OpenClaim := { program := "ytfiflcedbejamab", sum := "dfad11ccf2e1393c23ece4cb7b078beaca6864efdce456afb046e503b3fe81f6", func := "loop.example/g00321/laws.FnExactPolyThrough", spec := "fnExactPolyThrough", unfollowed := true, recurses := true, apart := false }
def FnExactPolyThroughSaid : Prop := fnExactPolyThroughRow.holds Try.pinned (OpenSpec.ofChange fnExactPolyThroughSpec)

/-- ITS FALSE NEIGHBOUR: 'it returns false'. Refute it at one input. -/
def fnExactPolyThroughWrong : ChangeSpec := { name := "fnExactPolyThrough", fn := fun _ => fun
  | [d] => { results := [.lit (.bool false)], args := [d] }
  | _ => none }
def FnExactPolyThroughWrongFalsely : Prop := fnExactPolyThroughRow.holds Try.pinned (OpenSpec.ofChange fnExactPolyThroughWrong)

/-- 'laws.FnExactPolyZero': WHATEVER THE INPUT: true; the input reads as it did. -/
def fnExactPolyZeroSpec : ChangeSpec := { name := "fnExactPolyZero", fn := fun _ => fun
  | [d] => { results := [.lit (.bool true)], args := [d] }
  | _ => none }
def fnExactPolyZeroRow : OpenClaim := { program := "ytfiflcedbejamab", sum := "dfad11ccf2e1393c23ece4cb7b078beaca6864efdce456afb046e503b3fe81f6", func := "loop.example/g00321/laws.FnExactPolyZero", spec := "fnExactPolyZero", apart := false }
def FnExactPolyZeroSaid : Prop := fnExactPolyZeroRow.holds Try.pinned (OpenSpec.ofChange fnExactPolyZeroSpec)

/-- ITS FALSE NEIGHBOUR: 'it returns false'. Refute it at one input. -/
def fnExactPolyZeroWrong : ChangeSpec := { name := "fnExactPolyZero", fn := fun _ => fun
  | [d] => { results := [.lit (.bool false)], args := [d] }
  | _ => none }
def FnExactPolyZeroWrongFalsely : Prop := fnExactPolyZeroRow.holds Try.pinned (OpenSpec.ofChange fnExactPolyZeroWrong)

/-- 'laws.FnExactPolyDivide': WHATEVER THE INPUT: true; the input reads as it did. -/
def fnExactPolyDivideSpec : ChangeSpec := { name := "fnExactPolyDivide", fn := fun _ => fun
  | [d1, d2] => { results := [.lit (.bool true)], args := [d1, d2] }
  | _ => none }
def fnExactPolyDivideRow : OpenClaim := { program := "ytfiflcedbejamab", sum := "dfad11ccf2e1393c23ece4cb7b078beaca6864efdce456afb046e503b3fe81f6", func := "loop.example/g00321/laws.FnExactPolyDivide", spec := "fnExactPolyDivide", unfollowed := true, recurses := true, apart := false }
def FnExactPolyDivideSaid : Prop := fnExactPolyDivideRow.holds Try.pinned (OpenSpec.ofChange fnExactPolyDivideSpec)

/-- ITS FALSE NEIGHBOUR: 'it returns false'. Refute it at one input. -/
def fnExactPolyDivideWrong : ChangeSpec := { name := "fnExactPolyDivide", fn := fun _ => fun
  | [d1, d2] => { results := [.lit (.bool false)], args := [d1, d2] }
  | _ => none }
def FnExactPolyDivideWrongFalsely : Prop := fnExactPolyDivideRow.holds Try.pinned (OpenSpec.ofChange fnExactPolyDivideWrong)

/- THE SECOND FORM. 'bulk': how many values and letters a reading holds, each counted each time it is reached (what is shared counts as often as it is met; a slice's spare places count too). A statement '..UptoSaid' is the law's where the arguments, and the package variables that the reading takes, are together of bulk at most 1048576: NARROWER than '..Said'. Prove '..Said' where nothing that the law and all that it calls make is longer than what came in: it says more and counts as full. Else prove '..UptoSaid'. A law counts once. -/
mutual
def uptoBulk {H : Type} : DataW H → Nat
  | .lit (.string bytes) => bytes.length + 1
  | .lit _ => 1
  | .nil => 1
  | .ptr d => uptoBulk d + 1
  | .slice elems spare => uptoBulkAll elems + uptoBulkAll spare + 1
  | .agg parts => uptoBulkAll parts + 1
  | .iface _ d => uptoBulk d + 1
  | .map entries => uptoBulkEntries entries + 1
  | .held _ => 1
def uptoBulkAll {H : Type} : List (DataW H) → Nat
  | [] => 0
  | d :: r => uptoBulk d + uptoBulkAll r
def uptoBulkEntries {H : Type} : List (Lit × DataW H) → Nat
  | [] => 0
  | x :: r => uptoBulkEntry x + uptoBulkEntries r
def uptoBulkEntry {H : Type} : Lit × DataW H → Nat
  | (.string bytes, d) => bytes.length + uptoBulk d + 1
  | (_, d) => uptoBulk d + 1
 end
def uptoSmall : (H : Type) → List (DataW H) → Bool := fun _ ds => decide (uptoBulkAll ds ≤ 1048576)
def OpenSpec.upto (s : _root_.Go.ChangeSpec) : _root_.Go.OpenSpec := { _root_.Go.OpenSpec.ofChange s with cond := some uptoSmall }

/-- 'laws.FnExactPolyAt', WHERE WHAT IT READS IS OF BULK AT MOST 1048576: true; the input reads as it did. -/
def fnExactPolyAtUptoRow : OpenClaim := { program := "ytfiflcedbejamab", sum := "dfad11ccf2e1393c23ece4cb7b078beaca6864efdce456afb046e503b3fe81f6", func := "loop.example/g00321/laws.FnExactPolyAt", spec := "fnExactPolyAt", apart := false, narrowed := true }
def FnExactPolyAtUptoSaid : Prop := fnExactPolyAtUptoRow.holds Try.pinned (OpenSpec.upto fnExactPolyAtSpec)

/-- 'laws.FnExactPolyThrough', WHERE WHAT IT READS IS OF BULK AT MOST 1048576: true; the input reads as it did. -/
def fnExactPolyThroughUptoRow : OpenClaim := { program := "ytfiflcedbejamab", sum := "dfad11ccf2e1393c23ece4cb7b078beaca6864efdce456afb046e503b3fe81f6", func := "loop.example/g00321/laws.FnExactPolyThrough", spec := "fnExactPolyThrough", unfollowed := true, recurses := true, apart := false, narrowed := true }
def FnExactPolyThroughUptoSaid : Prop := fnExactPolyThroughUptoRow.holds Try.pinned (OpenSpec.upto fnExactPolyThroughSpec)

/-- 'laws.FnExactPolyZero', WHERE WHAT IT READS IS OF BULK AT MOST 1048576: true; the input reads as it did. -/
def fnExactPolyZeroUptoRow : OpenClaim := { program := "ytfiflcedbejamab", sum := "dfad11ccf2e1393c23ece4cb7b078beaca6864efdce456afb046e503b3fe81f6", func := "loop.example/g00321/laws.FnExactPolyZero", spec := "fnExactPolyZero", apart := false, narrowed := true }
def FnExactPolyZeroUptoSaid : Prop := fnExactPolyZeroUptoRow.holds Try.pinned (OpenSpec.upto fnExactPolyZeroSpec)

/-- 'laws.FnExactPolyDivide', WHERE WHAT IT READS IS OF BULK AT MOST 1048576: true; the input reads as it did. -/
def fnExactPolyDivideUptoRow : OpenClaim := { program := "ytfiflcedbejamab", sum := "dfad11ccf2e1393c23ece4cb7b078beaca6864efdce456afb046e503b3fe81f6", func := "loop.example/g00321/laws.FnExactPolyDivide", spec := "fnExactPolyDivide", unfollowed := true, recurses := true, apart := false, narrowed := true }
def FnExactPolyDivideUptoSaid : Prop := fnExactPolyDivideUptoRow.holds Try.pinned (OpenSpec.upto fnExactPolyDivideSpec)

end Rows
end Go.Proofs.Ytfiflcedbejamab
