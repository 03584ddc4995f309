/-
  No cell of these rows narrows 'for every input' (looked for: loops, veiled, ifaces, maps, wideKeys, modest, calm, conditions, laid).
  DERIVED. THE GIVEN ROWS OF THIS SEAT. 6 by the template 'for every input the law returns true; each argument reads behind the call as it read before'; 0 by the template 'total and deterministic' (their statements: YtjdgifcompmiiaaTotals.lean).
  GIVEN WITH THE SEED: the statements are not yours to turn. If you find one false, say at which input.
  Laid BY PROGRAM, IN A SANDBOX (cutbox-rows.mjs): the forced cells as the released guide's own fill.sh prints them over the translation 92adbf2af86198b4… (all of the seat's roots in one cut). By AI agents, Wed Nov 11 2026. No macro, syntax, notation, axiom, sorry.
-/
import Derived.Test.YtjdgifcompmiiaaChecked
import GoSem.Claim
import GoSem.ClaimJoined
import GoSem.ClaimMapViews
import Derived.JoinedTies
import Derived.KernelRfl
namespace Go.Proofs.Ytjdgifcompmiiaa
/- THE CELL 'sum', in the pinned program and in every row, IS THE sha256 OF THE DUMP (.gsa) THAT YtjdgifcompmiiaaProg.lean LOADS. Nothing in Lean hashes anything: it is a label: what it is worth is what the hold of that sum in a sandbox is worth. -/
noncomputable def Try.pinned : Pinned := { name := "ytjdgifcompmiiaa", sum := "92adbf2af86198b4504363725b1b5b0584ba3e9a6922117c784ba4d78284596f", checked := Try.checked }
namespace Rows
def none {H : Type} : Left H := { results := [], args := [] }

/-- 'laws.FnScalars': WHATEVER THE INPUT: true; the input reads as it did. -/
def fnScalarsSpec : ChangeSpec := { name := "fnScalars", fn := fun _ => fun
  | [d] => { results := [.lit (.bool true)], args := [d] }
  | _ => none }
def fnScalarsRow : OpenClaim := { program := "ytjdgifcompmiiaa", sum := "92adbf2af86198b4504363725b1b5b0584ba3e9a6922117c784ba4d78284596f", func := "loop.example/g00321/laws.FnScalars", spec := "fnScalars", apart := false }
def FnScalarsSaid : Prop := fnScalarsRow.holds Try.pinned (OpenSpec.ofChange fnScalarsSpec)

/-- ITS FALSE NEIGHBOUR: 'it returns false'. Refute it at one input. -/
def fnScalarsWrong : ChangeSpec := { name := "fnScalars", fn := fun _ => fun
  | [d] => { results := [.lit (.bool false)], args := [d] }
  | _ => none }
def FnScalarsWrongFalsely : Prop := fnScalarsRow.holds Try.pinned (OpenSpec.ofChange fnScalarsWrong)

/-- 'laws.FnExactScOf': WHATEVER THE INPUT: true; the input reads as it did. -/
def fnExactScOfSpec : ChangeSpec := { name := "fnExactScOf", fn := fun _ => fun
  | [d] => { results := [.lit (.bool true)], args := [d] }
  | _ => none }
def fnExactScOfRow : OpenClaim := { program := "ytjdgifcompmiiaa", sum := "92adbf2af86198b4504363725b1b5b0584ba3e9a6922117c784ba4d78284596f", func := "loop.example/g00321/laws.FnExactScOf", spec := "fnExactScOf", apart := false }
def FnExactScOfSaid : Prop := fnExactScOfRow.holds Try.pinned (OpenSpec.ofChange fnExactScOfSpec)

/-- ITS FALSE NEIGHBOUR: 'it returns false'. Refute it at one input. -/
def fnExactScOfWrong : ChangeSpec := { name := "fnExactScOf", fn := fun _ => fun
  | [d] => { results := [.lit (.bool false)], args := [d] }
  | _ => none }
def FnExactScOfWrongFalsely : Prop := fnExactScOfRow.holds Try.pinned (OpenSpec.ofChange fnExactScOfWrong)

/-- 'laws.FnExactScAdd': WHATEVER THE INPUT: true; the input reads as it did. -/
def fnExactScAddSpec : ChangeSpec := { name := "fnExactScAdd", fn := fun _ => fun
  | [d1, d2] => { results := [.lit (.bool true)], args := [d1, d2] }
  | _ => none }
def fnExactScAddRow : OpenClaim := { program := "ytjdgifcompmiiaa", sum := "92adbf2af86198b4504363725b1b5b0584ba3e9a6922117c784ba4d78284596f", func := "loop.example/g00321/laws.FnExactScAdd", spec := "fnExactScAdd", apart := false }
def FnExactScAddSaid : Prop := fnExactScAddRow.holds Try.pinned (OpenSpec.ofChange fnExactScAddSpec)

/-- ITS FALSE NEIGHBOUR: 'it returns false'. Refute it at one input. -/
def fnExactScAddWrong : ChangeSpec := { name := "fnExactScAdd", fn := fun _ => fun
  | [d1, d2] => { results := [.lit (.bool false)], args := [d1, d2] }
  | _ => none }
def FnExactScAddWrongFalsely : Prop := fnExactScAddRow.holds Try.pinned (OpenSpec.ofChange fnExactScAddWrong)

/-- 'laws.FnExactScMul': WHATEVER THE INPUT: true; the input reads as it did. -/
def fnExactScMulSpec : ChangeSpec := { name := "fnExactScMul", fn := fun _ => fun
  | [d1, d2] => { results := [.lit (.bool true)], args := [d1, d2] }
  | _ => none }
def fnExactScMulRow : OpenClaim := { program := "ytjdgifcompmiiaa", sum := "92adbf2af86198b4504363725b1b5b0584ba3e9a6922117c784ba4d78284596f", func := "loop.example/g00321/laws.FnExactScMul", spec := "fnExactScMul", apart := false }
def FnExactScMulSaid : Prop := fnExactScMulRow.holds Try.pinned (OpenSpec.ofChange fnExactScMulSpec)

/-- ITS FALSE NEIGHBOUR: 'it returns false'. Refute it at one input. -/
def fnExactScMulWrong : ChangeSpec := { name := "fnExactScMul", fn := fun _ => fun
  | [d1, d2] => { results := [.lit (.bool false)], args := [d1, d2] }
  | _ => none }
def FnExactScMulWrongFalsely : Prop := fnExactScMulRow.holds Try.pinned (OpenSpec.ofChange fnExactScMulWrong)

/-- 'laws.FnExactScNeg': WHATEVER THE INPUT: true; the input reads as it did. -/
def fnExactScNegSpec : ChangeSpec := { name := "fnExactScNeg", fn := fun _ => fun
  | [d] => { results := [.lit (.bool true)], args := [d] }
  | _ => none }
def fnExactScNegRow : OpenClaim := { program := "ytjdgifcompmiiaa", sum := "92adbf2af86198b4504363725b1b5b0584ba3e9a6922117c784ba4d78284596f", func := "loop.example/g00321/laws.FnExactScNeg", spec := "fnExactScNeg", apart := false }
def FnExactScNegSaid : Prop := fnExactScNegRow.holds Try.pinned (OpenSpec.ofChange fnExactScNegSpec)

/-- ITS FALSE NEIGHBOUR: 'it returns false'. Refute it at one input. -/
def fnExactScNegWrong : ChangeSpec := { name := "fnExactScNeg", fn := fun _ => fun
  | [d] => { results := [.lit (.bool false)], args := [d] }
  | _ => none }
def FnExactScNegWrongFalsely : Prop := fnExactScNegRow.holds Try.pinned (OpenSpec.ofChange fnExactScNegWrong)

/-- 'laws.FnExactScInv': WHATEVER THE INPUT: true; the input reads as it did. -/
def fnExactScInvSpec : ChangeSpec := { name := "fnExactScInv", fn := fun _ => fun
  | [d] => { results := [.lit (.bool true)], args := [d] }
  | _ => none }
def fnExactScInvRow : OpenClaim := { program := "ytjdgifcompmiiaa", sum := "92adbf2af86198b4504363725b1b5b0584ba3e9a6922117c784ba4d78284596f", func := "loop.example/g00321/laws.FnExactScInv", spec := "fnExactScInv", apart := false }
def FnExactScInvSaid : Prop := fnExactScInvRow.holds Try.pinned (OpenSpec.ofChange fnExactScInvSpec)

/-- ITS FALSE NEIGHBOUR: 'it returns false'. Refute it at one input. -/
def fnExactScInvWrong : ChangeSpec := { name := "fnExactScInv", fn := fun _ => fun
  | [d] => { results := [.lit (.bool false)], args := [d] }
  | _ => none }
def FnExactScInvWrongFalsely : Prop := fnExactScInvRow.holds Try.pinned (OpenSpec.ofChange fnExactScInvWrong)

/- THE SECOND FORM. 'bulk': how many values and letters a reading holds, each counted each time it is reached (what is shared counts as often as it is met; a slice's spare places count too). A statement '..UptoSaid' is the law's where the arguments, and the package variables that the reading takes, are together of bulk at most 1048576: NARROWER than '..Said'. Prove '..Said' where nothing that the law and all that it calls make is longer than what came in: it says more and counts as full. Else prove '..UptoSaid'. A law counts once. -/
mutual
def uptoBulk {H : Type} : DataW H → Nat
  | .lit (.string bytes) => bytes.length + 1
  | .lit _ => 1
  | .nil => 1
  | .ptr d => uptoBulk d + 1
  | .slice elems spare => uptoBulkAll elems + uptoBulkAll spare + 1
  | .agg parts => uptoBulkAll parts + 1
  | .iface _ d => uptoBulk d + 1
  | .map entries => uptoBulkEntries entries + 1
  | .held _ => 1
def uptoBulkAll {H : Type} : List (DataW H) → Nat
  | [] => 0
  | d :: r => uptoBulk d + uptoBulkAll r
def uptoBulkEntries {H : Type} : List (Lit × DataW H) → Nat
  | [] => 0
  | x :: r => uptoBulkEntry x + uptoBulkEntries r
def uptoBulkEntry {H : Type} : Lit × DataW H → Nat
  | (.string bytes, d) => bytes.length + uptoBulk d + 1
  | (_, d) => uptoBulk d + 1
 end
def uptoSmall : (H : Type) → List (DataW H) → Bool := fun _ ds => decide (uptoBulkAll ds ≤ 1048576)
def OpenSpec.upto (s : _root_.Go.ChangeSpec) : _root_.Go.OpenSpec := { _root_.Go.OpenSpec.ofChange s with cond := some uptoSmall }

/-- 'laws.FnScalars', WHERE WHAT IT READS IS OF BULK AT MOST 1048576: true; the input reads as it did. -/
def fnScalarsUptoRow : OpenClaim := { program := "ytjdgifcompmiiaa", sum := "92adbf2af86198b4504363725b1b5b0584ba3e9a6922117c784ba4d78284596f", func := "loop.example/g00321/laws.FnScalars", spec := "fnScalars", apart := false, narrowed := true }
def FnScalarsUptoSaid : Prop := fnScalarsUptoRow.holds Try.pinned (OpenSpec.upto fnScalarsSpec)

/-- 'laws.FnExactScOf', WHERE WHAT IT READS IS OF BULK AT MOST 1048576: true; the input reads as it did. -/
def fnExactScOfUptoRow : OpenClaim := { program := "ytjdgifcompmiiaa", sum := "92adbf2af86198b4504363725b1b5b0584ba3e9a6922117c784ba4d78284596f", func := "loop.example/g00321/laws.FnExactScOf", spec := "fnExactScOf", apart := false, narrowed := true }
def FnExactScOfUptoSaid : Prop := fnExactScOfUptoRow.holds Try.pinned (OpenSpec.upto fnExactScOfSpec)

/-- 'laws.FnExactScAdd', WHERE WHAT IT READS IS OF BULK AT MOST 1048576: true; the input reads as it did. -/
def fnExactScAddUptoRow : OpenClaim := { program := "ytjdgifcompmiiaa", sum := "92adbf2af86198b4504363725b1b5b0584ba3e9a6922117c784ba4d78284596f", func := "loop.example/g00321/laws.FnExactScAdd", spec := "fnExactScAdd", apart := false, narrowed := true }
def FnExactScAddUptoSaid : Prop := fnExactScAddUptoRow.holds Try.pinned (OpenSpec.upto fnExactScAddSpec)

/-- 'laws.FnExactScMul', WHERE WHAT IT READS IS OF BULK AT MOST 1048576: true; the input reads as it did. -/
def fnExactScMulUptoRow : OpenClaim := { program := "ytjdgifcompmiiaa", sum := "92adbf2af86198b4504363725b1b5b0584ba3e9a6922117c784ba4d78284596f", func := "loop.example/g00321/laws.FnExactScMul", spec := "fnExactScMul", apart := false, narrowed := true }
def FnExactScMulUptoSaid : Prop := fnExactScMulUptoRow.holds Try.pinned (OpenSpec.upto fnExactScMulSpec)

/-- 'laws.FnExactScNeg', WHERE WHAT IT READS IS OF BULK AT MOST 1048576: true; the input reads as it did. -/
def fnExactScNegUptoRow : OpenClaim := { program := "ytjdgifcompmiiaa", sum := "92adbf2af86198b4504363725b1b5b0584ba3e9a6922117c784ba4d78284596f", func := "loop.example/g00321/laws.FnExactScNeg", spec := "fnExactScNeg", apart := false, narrowed := true }
def FnExactScNegUptoSaid : Prop := fnExactScNegUptoRow.holds Try.pinned (OpenSpec.upto fnExactScNegSpec)

/-- 'laws.FnExactScInv', WHERE WHAT IT READS IS OF BULK AT MOST 1048576: true; the input reads as it did. -/
def fnExactScInvUptoRow : OpenClaim := { program := "ytjdgifcompmiiaa", sum := "92adbf2af86198b4504363725b1b5b0584ba3e9a6922117c784ba4d78284596f", func := "loop.example/g00321/laws.FnExactScInv", spec := "fnExactScInv", apart := false, narrowed := true }
def FnExactScInvUptoSaid : Prop := fnExactScInvUptoRow.holds Try.pinned (OpenSpec.upto fnExactScInvSpec)

end Rows
end Go.Proofs.Ytjdgifcompmiiaa
