/-
  No cell of these rows narrows 'for every input' (looked for: loops, veiled, ifaces, maps, wideKeys, modest, calm, conditions, laid).
  DERIVED. THE GIVEN ROWS OF THIS SEAT. 6 by the template 'for every input the law returns true; each argument reads behind the call as it read before'; 0 by the template 'total and deterministic' (their statements: YtjlijflfepffiaaTotals.lean).
  GIVEN WITH THE SEED: the statements are not yours to turn. If you find one false, say at which input.
  Laid BY PROGRAM, IN A SANDBOX (cutbox-rows.mjs): the forced cells as the released guide's own fill.sh prints them over the translation 7596dc388cd9860d… (all of the seat's roots in one cut). By AI agents, Wed Nov 11 2026. No macro, syntax, notation, axiom, sorry.
-/
import Derived.Test.YtjlijflfepffiaaChecked
import GoSem.Claim
import GoSem.ClaimJoined
import GoSem.ClaimMapViews
import Derived.JoinedTies
import Derived.KernelRfl
namespace Go.Proofs.Ytjlijflfepffiaa
/- THE CELL 'sum', in the pinned program and in every row, IS THE sha256 OF THE DUMP (.gsa) THAT YtjlijflfepffiaaProg.lean LOADS. Nothing in Lean hashes anything: it is a label: what it is worth is what the hold of that sum in a sandbox is worth. -/
noncomputable def Try.pinned : Pinned := { name := "ytjlijflfepffiaa", sum := "7596dc388cd9860dc85e1b9a7446b47eb6566ef683dc4fb5f6b50d355de92d06", checked := Try.checked }
namespace Rows
def none {H : Type} : Left H := { results := [], args := [] }

/-- 'laws.FnQaps': WHATEVER THE INPUT: true; the input reads as it did. -/
def fnQapsSpec : ChangeSpec := { name := "fnQaps", fn := fun _ => fun
  | [d] => { results := [.lit (.bool true)], args := [d] }
  | _ => none }
def fnQapsRow : OpenClaim := { program := "ytjlijflfepffiaa", sum := "7596dc388cd9860dc85e1b9a7446b47eb6566ef683dc4fb5f6b50d355de92d06", func := "loop.example/g00321/laws.FnQaps", spec := "fnQaps", unfollowed := true, recurses := true, apart := false }
def FnQapsSaid : Prop := fnQapsRow.holds Try.pinned (OpenSpec.ofChange fnQapsSpec)

/-- ITS FALSE NEIGHBOUR: 'it returns false'. Refute it at one input. -/
def fnQapsWrong : ChangeSpec := { name := "fnQaps", fn := fun _ => fun
  | [d] => { results := [.lit (.bool false)], args := [d] }
  | _ => none }
def FnQapsWrongFalsely : Prop := fnQapsRow.holds Try.pinned (OpenSpec.ofChange fnQapsWrong)

/-- 'laws.FnQapsTold': WHATEVER THE INPUT: true; the input reads as it did. -/
def fnQapsToldSpec : ChangeSpec := { name := "fnQapsTold", fn := fun _ => fun
  | [d] => { results := [.lit (.bool true)], args := [d] }
  | _ => none }
def fnQapsToldRow : OpenClaim := { program := "ytjlijflfepffiaa", sum := "7596dc388cd9860dc85e1b9a7446b47eb6566ef683dc4fb5f6b50d355de92d06", func := "loop.example/g00321/laws.FnQapsTold", spec := "fnQapsTold", unfollowed := true, recurses := true, apart := false }
def FnQapsToldSaid : Prop := fnQapsToldRow.holds Try.pinned (OpenSpec.ofChange fnQapsToldSpec)

/-- ITS FALSE NEIGHBOUR: 'it returns false'. Refute it at one input. -/
def fnQapsToldWrong : ChangeSpec := { name := "fnQapsTold", fn := fun _ => fun
  | [d] => { results := [.lit (.bool false)], args := [d] }
  | _ => none }
def FnQapsToldWrongFalsely : Prop := fnQapsToldRow.holds Try.pinned (OpenSpec.ofChange fnQapsToldWrong)

/-- 'laws.FnExactQapOf': WHATEVER THE INPUT: true; the input reads as it did. -/
def fnExactQapOfSpec : ChangeSpec := { name := "fnExactQapOf", fn := fun _ => fun
  | [d] => { results := [.lit (.bool true)], args := [d] }
  | _ => none }
def fnExactQapOfRow : OpenClaim := { program := "ytjlijflfepffiaa", sum := "7596dc388cd9860dc85e1b9a7446b47eb6566ef683dc4fb5f6b50d355de92d06", func := "loop.example/g00321/laws.FnExactQapOf", spec := "fnExactQapOf", unfollowed := true, recurses := true, apart := false }
def FnExactQapOfSaid : Prop := fnExactQapOfRow.holds Try.pinned (OpenSpec.ofChange fnExactQapOfSpec)

/-- ITS FALSE NEIGHBOUR: 'it returns false'. Refute it at one input. -/
def fnExactQapOfWrong : ChangeSpec := { name := "fnExactQapOf", fn := fun _ => fun
  | [d] => { results := [.lit (.bool false)], args := [d] }
  | _ => none }
def FnExactQapOfWrongFalsely : Prop := fnExactQapOfRow.holds Try.pinned (OpenSpec.ofChange fnExactQapOfWrong)

/-- 'laws.FnExactMixed': WHATEVER THE INPUT: true; the input reads as it did. -/
def fnExactMixedSpec : ChangeSpec := { name := "fnExactMixed", fn := fun _ => fun
  | [d1, d2] => { results := [.lit (.bool true)], args := [d1, d2] }
  | _ => none }
def fnExactMixedRow : OpenClaim := { program := "ytjlijflfepffiaa", sum := "7596dc388cd9860dc85e1b9a7446b47eb6566ef683dc4fb5f6b50d355de92d06", func := "loop.example/g00321/laws.FnExactMixed", spec := "fnExactMixed", apart := false }
def FnExactMixedSaid : Prop := fnExactMixedRow.holds Try.pinned (OpenSpec.ofChange fnExactMixedSpec)

/-- ITS FALSE NEIGHBOUR: 'it returns false'. Refute it at one input. -/
def fnExactMixedWrong : ChangeSpec := { name := "fnExactMixed", fn := fun _ => fun
  | [d1, d2] => { results := [.lit (.bool false)], args := [d1, d2] }
  | _ => none }
def FnExactMixedWrongFalsely : Prop := fnExactMixedRow.holds Try.pinned (OpenSpec.ofChange fnExactMixedWrong)

/-- 'laws.FnExactQuotientOf': WHATEVER THE INPUT: true; the input reads as it did. -/
def fnExactQuotientOfSpec : ChangeSpec := { name := "fnExactQuotientOf", fn := fun _ => fun
  | [d1, d2] => { results := [.lit (.bool true)], args := [d1, d2] }
  | _ => none }
def fnExactQuotientOfRow : OpenClaim := { program := "ytjlijflfepffiaa", sum := "7596dc388cd9860dc85e1b9a7446b47eb6566ef683dc4fb5f6b50d355de92d06", func := "loop.example/g00321/laws.FnExactQuotientOf", spec := "fnExactQuotientOf", unfollowed := true, recurses := true, apart := false }
def FnExactQuotientOfSaid : Prop := fnExactQuotientOfRow.holds Try.pinned (OpenSpec.ofChange fnExactQuotientOfSpec)

/-- ITS FALSE NEIGHBOUR: 'it returns false'. Refute it at one input. -/
def fnExactQuotientOfWrong : ChangeSpec := { name := "fnExactQuotientOf", fn := fun _ => fun
  | [d1, d2] => { results := [.lit (.bool false)], args := [d1, d2] }
  | _ => none }
def FnExactQuotientOfWrongFalsely : Prop := fnExactQuotientOfRow.holds Try.pinned (OpenSpec.ofChange fnExactQuotientOfWrong)

/-- 'laws.FnExactQapHolds': WHATEVER THE INPUT: true; the input reads as it did. -/
def fnExactQapHoldsSpec : ChangeSpec := { name := "fnExactQapHolds", fn := fun _ => fun
  | [d1, d2, d3] => { results := [.lit (.bool true)], args := [d1, d2, d3] }
  | _ => none }
def fnExactQapHoldsRow : OpenClaim := { program := "ytjlijflfepffiaa", sum := "7596dc388cd9860dc85e1b9a7446b47eb6566ef683dc4fb5f6b50d355de92d06", func := "loop.example/g00321/laws.FnExactQapHolds", spec := "fnExactQapHolds", unfollowed := true, recurses := true, apart := false }
def FnExactQapHoldsSaid : Prop := fnExactQapHoldsRow.holds Try.pinned (OpenSpec.ofChange fnExactQapHoldsSpec)

/-- ITS FALSE NEIGHBOUR: 'it returns false'. Refute it at one input. -/
def fnExactQapHoldsWrong : ChangeSpec := { name := "fnExactQapHolds", fn := fun _ => fun
  | [d1, d2, d3] => { results := [.lit (.bool false)], args := [d1, d2, d3] }
  | _ => none }
def FnExactQapHoldsWrongFalsely : Prop := fnExactQapHoldsRow.holds Try.pinned (OpenSpec.ofChange fnExactQapHoldsWrong)

/- THE SECOND FORM. 'bulk': how many values and letters a reading holds, each counted each time it is reached (what is shared counts as often as it is met; a slice's spare places count too). A statement '..UptoSaid' is the law's where the arguments, and the package variables that the reading takes, are together of bulk at most 1048576: NARROWER than '..Said'. Prove '..Said' where nothing that the law and all that it calls make is longer than what came in: it says more and counts as full. Else prove '..UptoSaid'. A law counts once. -/
mutual
def uptoBulk {H : Type} : DataW H → Nat
  | .lit (.string bytes) => bytes.length + 1
  | .lit _ => 1
  | .nil => 1
  | .ptr d => uptoBulk d + 1
  | .slice elems spare => uptoBulkAll elems + uptoBulkAll spare + 1
  | .agg parts => uptoBulkAll parts + 1
  | .iface _ d => uptoBulk d + 1
  | .map entries => uptoBulkEntries entries + 1
  | .held _ => 1
def uptoBulkAll {H : Type} : List (DataW H) → Nat
  | [] => 0
  | d :: r => uptoBulk d + uptoBulkAll r
def uptoBulkEntries {H : Type} : List (Lit × DataW H) → Nat
  | [] => 0
  | x :: r => uptoBulkEntry x + uptoBulkEntries r
def uptoBulkEntry {H : Type} : Lit × DataW H → Nat
  | (.string bytes, d) => bytes.length + uptoBulk d + 1
  | (_, d) => uptoBulk d + 1
 end
def uptoSmall : (H : Type) → List (DataW H) → Bool := fun _ ds => decide (uptoBulkAll ds ≤ 1048576)
def OpenSpec.upto (s : _root_.Go.ChangeSpec) : _root_.Go.OpenSpec := { _root_.Go.OpenSpec.ofChange s with cond := some uptoSmall }

/-- 'laws.FnQaps', WHERE WHAT IT READS IS OF BULK AT MOST 1048576: true; the input reads as it did. -/
def fnQapsUptoRow : OpenClaim := { program := "ytjlijflfepffiaa", sum := "7596dc388cd9860dc85e1b9a7446b47eb6566ef683dc4fb5f6b50d355de92d06", func := "loop.example/g00321/laws.FnQaps", spec := "fnQaps", unfollowed := true, recurses := true, apart := false, narrowed := true }
def FnQapsUptoSaid : Prop := fnQapsUptoRow.holds Try.pinned (OpenSpec.upto fnQapsSpec)

/-- 'laws.FnQapsTold', WHERE WHAT IT READS IS OF BULK AT MOST 1048576: true; the input reads as it did. -/
def fnQapsToldUptoRow : OpenClaim := { program := "ytjlijflfepffiaa", sum := "7596dc388cd9860dc85e1b9a7446b47eb6566ef683dc4fb5f6b50d355de92d06", func := "loop.example/g00321/laws.FnQapsTold", spec := "fnQapsTold", unfollowed := true, recurses := true, apart := false, narrowed := true }
def FnQapsToldUptoSaid : Prop := fnQapsToldUptoRow.holds Try.pinned (OpenSpec.upto fnQapsToldSpec)

/-- 'laws.FnExactQapOf', WHERE WHAT IT READS IS OF BULK AT MOST 1048576: true; the input reads as it did. -/
def fnExactQapOfUptoRow : OpenClaim := { program := "ytjlijflfepffiaa", sum := "7596dc388cd9860dc85e1b9a7446b47eb6566ef683dc4fb5f6b50d355de92d06", func := "loop.example/g00321/laws.FnExactQapOf", spec := "fnExactQapOf", unfollowed := true, recurses := true, apart := false, narrowed := true }
def FnExactQapOfUptoSaid : Prop := fnExactQapOfUptoRow.holds Try.pinned (OpenSpec.upto fnExactQapOfSpec)

/-- 'laws.FnExactMixed', WHERE WHAT IT READS IS OF BULK AT MOST 1048576: true; the input reads as it did. -/
def fnExactMixedUptoRow : OpenClaim := { program := "ytjlijflfepffiaa", sum := "7596dc388cd9860dc85e1b9a7446b47eb6566ef683dc4fb5f6b50d355de92d06", func := "loop.example/g00321/laws.FnExactMixed", spec := "fnExactMixed", apart := false, narrowed := true }
def FnExactMixedUptoSaid : Prop := fnExactMixedUptoRow.holds Try.pinned (OpenSpec.upto fnExactMixedSpec)

/-- 'laws.FnExactQuotientOf', WHERE WHAT IT READS IS OF BULK AT MOST 1048576: true; the input reads as it did. -/
def fnExactQuotientOfUptoRow : OpenClaim := { program := "ytjlijflfepffiaa", sum := "7596dc388cd9860dc85e1b9a7446b47eb6566ef683dc4fb5f6b50d355de92d06", func := "loop.example/g00321/laws.FnExactQuotientOf", spec := "fnExactQuotientOf", unfollowed := true, recurses := true, apart := false, narrowed := true }
def FnExactQuotientOfUptoSaid : Prop := fnExactQuotientOfUptoRow.holds Try.pinned (OpenSpec.upto fnExactQuotientOfSpec)

/-- 'laws.FnExactQapHolds', WHERE WHAT IT READS IS OF BULK AT MOST 1048576: true; the input reads as it did. -/
def fnExactQapHoldsUptoRow : OpenClaim := { program := "ytjlijflfepffiaa", sum := "7596dc388cd9860dc85e1b9a7446b47eb6566ef683dc4fb5f6b50d355de92d06", func := "loop.example/g00321/laws.FnExactQapHolds", spec := "fnExactQapHolds", unfollowed := true, recurses := true, apart := false, narrowed := true }
def FnExactQapHoldsUptoSaid : Prop := fnExactQapHoldsUptoRow.holds Try.pinned (OpenSpec.upto fnExactQapHoldsSpec)

end Rows
end Go.Proofs.Ytjlijflfepffiaa
