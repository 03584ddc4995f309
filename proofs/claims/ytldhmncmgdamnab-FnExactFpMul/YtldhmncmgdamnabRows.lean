/-
  No cell of these rows narrows 'for every input' (looked for: loops, veiled, ifaces, maps, wideKeys, modest, calm, conditions, laid).
  DERIVED. THE GIVEN ROWS OF THIS SEAT. 4 by the template 'for every input the law returns true; each argument reads behind the call as it read before'; 0 by the template 'total and deterministic' (their statements: YtldhmncmgdamnabTotals.lean).
  GIVEN WITH THE SEED: the statements are not yours to turn. If you find one false, say at which input.
  Laid BY PROGRAM, IN A SANDBOX (cutbox-rows.mjs): the forced cells as the released guide's own fill.sh prints them over the translation 14d86971dfcfb8b0… (all of the seat's roots in one cut). By AI agents, Wed Nov 11 2026. No macro, syntax, notation, axiom, sorry.
-/
import Derived.Test.YtldhmncmgdamnabChecked
import GoSem.Claim
import GoSem.ClaimJoined
import GoSem.ClaimMapViews
import Derived.JoinedTies
import Derived.KernelRfl
namespace Go.Proofs.Ytldhmncmgdamnab
/- THE CELL 'sum', in the pinned program and in every row, IS THE sha256 OF THE DUMP (.gsa) THAT YtldhmncmgdamnabProg.lean LOADS. Nothing in Lean hashes anything: it is a label: what it is worth is what the hold of that sum in a sandbox is worth. -/
noncomputable def Try.pinned : Pinned := { name := "ytldhmncmgdamnab", sum := "14d86971dfcfb8b04bad9c1414805e7e0adab3004bd7c565bf7fb0c1ec8de2e1", checked := Try.checked }
namespace Rows
def none {H : Type} : Left H := { results := [], args := [] }

/-- 'laws.FnExactFpMul': WHATEVER THE INPUT: true; the input reads as it did. -/
def fnExactFpMulSpec : ChangeSpec := { name := "fnExactFpMul", fn := fun _ => fun
  | [d1, d2] => { results := [.lit (.bool true)], args := [d1, d2] }
  | _ => none }
def fnExactFpMulRow : OpenClaim := { program := "ytldhmncmgdamnab", sum := "14d86971dfcfb8b04bad9c1414805e7e0adab3004bd7c565bf7fb0c1ec8de2e1", func := "loop.example/g00321/laws.FnExactFpMul", spec := "fnExactFpMul", apart := false }
def FnExactFpMulSaid : Prop := fnExactFpMulRow.holds Try.pinned (OpenSpec.ofChange fnExactFpMulSpec)

/-- ITS FALSE NEIGHBOUR: 'it returns false'. Refute it at one input. -/
def fnExactFpMulWrong : ChangeSpec := { name := "fnExactFpMul", fn := fun _ => fun
  | [d1, d2] => { results := [.lit (.bool false)], args := [d1, d2] }
  | _ => none }
def FnExactFpMulWrongFalsely : Prop := fnExactFpMulRow.holds Try.pinned (OpenSpec.ofChange fnExactFpMulWrong)

/-- 'laws.FnExactFpPow': WHATEVER THE INPUT: true; the input reads as it did. -/
def fnExactFpPowSpec : ChangeSpec := { name := "fnExactFpPow", fn := fun _ => fun
  | [d1, d2] => { results := [.lit (.bool true)], args := [d1, d2] }
  | _ => none }
def fnExactFpPowRow : OpenClaim := { program := "ytldhmncmgdamnab", sum := "14d86971dfcfb8b04bad9c1414805e7e0adab3004bd7c565bf7fb0c1ec8de2e1", func := "loop.example/g00321/laws.FnExactFpPow", spec := "fnExactFpPow", apart := false }
def FnExactFpPowSaid : Prop := fnExactFpPowRow.holds Try.pinned (OpenSpec.ofChange fnExactFpPowSpec)

/-- ITS FALSE NEIGHBOUR: 'it returns false'. Refute it at one input. -/
def fnExactFpPowWrong : ChangeSpec := { name := "fnExactFpPow", fn := fun _ => fun
  | [d1, d2] => { results := [.lit (.bool false)], args := [d1, d2] }
  | _ => none }
def FnExactFpPowWrongFalsely : Prop := fnExactFpPowRow.holds Try.pinned (OpenSpec.ofChange fnExactFpPowWrong)

/-- 'laws.FnExactFpInv': WHATEVER THE INPUT: true; the input reads as it did. -/
def fnExactFpInvSpec : ChangeSpec := { name := "fnExactFpInv", fn := fun _ => fun
  | [d] => { results := [.lit (.bool true)], args := [d] }
  | _ => none }
def fnExactFpInvRow : OpenClaim := { program := "ytldhmncmgdamnab", sum := "14d86971dfcfb8b04bad9c1414805e7e0adab3004bd7c565bf7fb0c1ec8de2e1", func := "loop.example/g00321/laws.FnExactFpInv", spec := "fnExactFpInv", apart := false }
def FnExactFpInvSaid : Prop := fnExactFpInvRow.holds Try.pinned (OpenSpec.ofChange fnExactFpInvSpec)

/-- ITS FALSE NEIGHBOUR: 'it returns false'. Refute it at one input. -/
def fnExactFpInvWrong : ChangeSpec := { name := "fnExactFpInv", fn := fun _ => fun
  | [d] => { results := [.lit (.bool false)], args := [d] }
  | _ => none }
def FnExactFpInvWrongFalsely : Prop := fnExactFpInvRow.holds Try.pinned (OpenSpec.ofChange fnExactFpInvWrong)

/-- 'laws.FnExactFpRoot': WHATEVER THE INPUT: true; the input reads as it did. -/
def fnExactFpRootSpec : ChangeSpec := { name := "fnExactFpRoot", fn := fun _ => fun
  | [d] => { results := [.lit (.bool true)], args := [d] }
  | _ => none }
def fnExactFpRootRow : OpenClaim := { program := "ytldhmncmgdamnab", sum := "14d86971dfcfb8b04bad9c1414805e7e0adab3004bd7c565bf7fb0c1ec8de2e1", func := "loop.example/g00321/laws.FnExactFpRoot", spec := "fnExactFpRoot", apart := false }
def FnExactFpRootSaid : Prop := fnExactFpRootRow.holds Try.pinned (OpenSpec.ofChange fnExactFpRootSpec)

/-- ITS FALSE NEIGHBOUR: 'it returns false'. Refute it at one input. -/
def fnExactFpRootWrong : ChangeSpec := { name := "fnExactFpRoot", fn := fun _ => fun
  | [d] => { results := [.lit (.bool false)], args := [d] }
  | _ => none }
def FnExactFpRootWrongFalsely : Prop := fnExactFpRootRow.holds Try.pinned (OpenSpec.ofChange fnExactFpRootWrong)

/- THE SECOND FORM. 'bulk': how many values and letters a reading holds, each counted each time it is reached (what is shared counts as often as it is met; a slice's spare places count too). A statement '..UptoSaid' is the law's where the arguments, and the package variables that the reading takes, are together of bulk at most 1048576: NARROWER than '..Said'. Prove '..Said' where nothing that the law and all that it calls make is longer than what came in: it says more and counts as full. Else prove '..UptoSaid'. A law counts once. -/
mutual
def uptoBulk {H : Type} : DataW H → Nat
  | .lit (.string bytes) => bytes.length + 1
  | .lit _ => 1
  | .nil => 1
  | .ptr d => uptoBulk d + 1
  | .slice elems spare => uptoBulkAll elems + uptoBulkAll spare + 1
  | .agg parts => uptoBulkAll parts + 1
  | .iface _ d => uptoBulk d + 1
  | .map entries => uptoBulkEntries entries + 1
  | .held _ => 1
def uptoBulkAll {H : Type} : List (DataW H) → Nat
  | [] => 0
  | d :: r => uptoBulk d + uptoBulkAll r
def uptoBulkEntries {H : Type} : List (Lit × DataW H) → Nat
  | [] => 0
  | x :: r => uptoBulkEntry x + uptoBulkEntries r
def uptoBulkEntry {H : Type} : Lit × DataW H → Nat
  | (.string bytes, d) => bytes.length + uptoBulk d + 1
  | (_, d) => uptoBulk d + 1
 end
def uptoSmall : (H : Type) → List (DataW H) → Bool := fun _ ds => decide (uptoBulkAll ds ≤ 1048576)
def OpenSpec.upto (s : _root_.Go.ChangeSpec) : _root_.Go.OpenSpec := { _root_.Go.OpenSpec.ofChange s with cond := some uptoSmall }

/-- 'laws.FnExactFpMul', WHERE WHAT IT READS IS OF BULK AT MOST 1048576: true; the input reads as it did. -/
def fnExactFpMulUptoRow : OpenClaim := { program := "ytldhmncmgdamnab", sum := "14d86971dfcfb8b04bad9c1414805e7e0adab3004bd7c565bf7fb0c1ec8de2e1", func := "loop.example/g00321/laws.FnExactFpMul", spec := "fnExactFpMul", apart := false, narrowed := true }
def FnExactFpMulUptoSaid : Prop := fnExactFpMulUptoRow.holds Try.pinned (OpenSpec.upto fnExactFpMulSpec)

/-- 'laws.FnExactFpPow', WHERE WHAT IT READS IS OF BULK AT MOST 1048576: true; the input reads as it did. -/
def fnExactFpPowUptoRow : OpenClaim := { program := "ytldhmncmgdamnab", sum := "14d86971dfcfb8b04bad9c1414805e7e0adab3004bd7c565bf7fb0c1ec8de2e1", func := "loop.example/g00321/laws.FnExactFpPow", spec := "fnExactFpPow", apart := false, narrowed := true }
def FnExactFpPowUptoSaid : Prop := fnExactFpPowUptoRow.holds Try.pinned (OpenSpec.upto fnExactFpPowSpec)

/-- 'laws.FnExactFpInv', WHERE WHAT IT READS IS OF BULK AT MOST 1048576: true; the input reads as it did. -/
def fnExactFpInvUptoRow : OpenClaim := { program := "ytldhmncmgdamnab", sum := "14d86971dfcfb8b04bad9c1414805e7e0adab3004bd7c565bf7fb0c1ec8de2e1", func := "loop.example/g00321/laws.FnExactFpInv", spec := "fnExactFpInv", apart := false, narrowed := true }
def FnExactFpInvUptoSaid : Prop := fnExactFpInvUptoRow.holds Try.pinned (OpenSpec.upto fnExactFpInvSpec)

/-- 'laws.FnExactFpRoot', WHERE WHAT IT READS IS OF BULK AT MOST 1048576: true; the input reads as it did. -/
def fnExactFpRootUptoRow : OpenClaim := { program := "ytldhmncmgdamnab", sum := "14d86971dfcfb8b04bad9c1414805e7e0adab3004bd7c565bf7fb0c1ec8de2e1", func := "loop.example/g00321/laws.FnExactFpRoot", spec := "fnExactFpRoot", apart := false, narrowed := true }
def FnExactFpRootUptoSaid : Prop := fnExactFpRootUptoRow.holds Try.pinned (OpenSpec.upto fnExactFpRootSpec)

end Rows
end Go.Proofs.Ytldhmncmgdamnab
