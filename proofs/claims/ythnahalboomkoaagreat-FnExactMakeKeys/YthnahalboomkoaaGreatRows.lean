/-
  No cell of these rows narrows 'for every input' (looked for: loops, veiled, ifaces, maps, wideKeys, modest, calm, conditions, laid).
  DERIVED. THE GIVEN ROWS OF THIS SEAT. 4 by the template 'for every input the law returns true; each argument reads behind the call as it read before'; 0 by the template 'total and deterministic' (their statements: YthnahalboomkoaaGreatTotals.lean).
  GIVEN WITH THE SEED: the statements are not yours to turn. If you find one false, say at which input.
  Laid BY PROGRAM, IN A SANDBOX (cutbox-rows.mjs): the forced cells as the released guide's own fill.sh prints them over the translation 4b16bb93eceeabbb… (all of the seat's roots in one cut). By AI agents, Wed Nov 11 2026. No macro, syntax, notation, axiom, sorry.
-/
import Derived.Test.YthnahalboomkoaaGreatChecked
import GoSem.Claim
import GoSem.ClaimJoined
import GoSem.ClaimMapViews
import Derived.JoinedTies
import Derived.KernelRfl
namespace Go.Proofs.YthnahalboomkoaaGreat
/- THE CELL 'sum', in the pinned program and in every row, IS THE sha256 OF THE DUMP (.gsa) THAT YthnahalboomkoaaGreatProg.lean LOADS. Nothing in Lean hashes anything: it is a label: what it is worth is what the hold of that sum in a sandbox is worth. -/
noncomputable def Tryz.pinned : Pinned := { name := "ythnahalboomkoaagreat", sum := "4b16bb93eceeabbb7027e836df008757fb20448e454247a3c101ff8c385d484c", checked := Tryz.checked }
namespace Rows
def none {H : Type} : Left H := { results := [], args := [] }

/-- 'laws.FnProves': WHATEVER THE INPUT: true; the input reads as it did. -/
def fnProvesSpec : ChangeSpec := { name := "fnProves", fn := fun _ => fun
  | [d] => { results := [.lit (.bool true)], args := [d] }
  | _ => none }
def fnProvesRow : OpenClaim := { program := "ythnahalboomkoaagreat", sum := "4b16bb93eceeabbb7027e836df008757fb20448e454247a3c101ff8c385d484c", func := "loop.example/g00321/laws.FnProves", spec := "fnProves", unfollowed := true, recurses := true, apart := false }
def FnProvesSaid : Prop := fnProvesRow.holds Tryz.pinned (OpenSpec.ofChange fnProvesSpec)

/-- ITS FALSE NEIGHBOUR: 'it returns false'. Refute it at one input. -/
def fnProvesWrong : ChangeSpec := { name := "fnProves", fn := fun _ => fun
  | [d] => { results := [.lit (.bool false)], args := [d] }
  | _ => none }
def FnProvesWrongFalsely : Prop := fnProvesRow.holds Tryz.pinned (OpenSpec.ofChange fnProvesWrong)

/-- 'laws.FnProvesOther': WHATEVER THE INPUT: true; the input reads as it did. -/
def fnProvesOtherSpec : ChangeSpec := { name := "fnProvesOther", fn := fun _ => fun
  | [d] => { results := [.lit (.bool true)], args := [d] }
  | _ => none }
def fnProvesOtherRow : OpenClaim := { program := "ythnahalboomkoaagreat", sum := "4b16bb93eceeabbb7027e836df008757fb20448e454247a3c101ff8c385d484c", func := "loop.example/g00321/laws.FnProvesOther", spec := "fnProvesOther", unfollowed := true, recurses := true, apart := false }
def FnProvesOtherSaid : Prop := fnProvesOtherRow.holds Tryz.pinned (OpenSpec.ofChange fnProvesOtherSpec)

/-- ITS FALSE NEIGHBOUR: 'it returns false'. Refute it at one input. -/
def fnProvesOtherWrong : ChangeSpec := { name := "fnProvesOther", fn := fun _ => fun
  | [d] => { results := [.lit (.bool false)], args := [d] }
  | _ => none }
def FnProvesOtherWrongFalsely : Prop := fnProvesOtherRow.holds Tryz.pinned (OpenSpec.ofChange fnProvesOtherWrong)

/-- 'laws.FnProofsTold': WHATEVER THE INPUT: true; the input reads as it did. -/
def fnProofsToldSpec : ChangeSpec := { name := "fnProofsTold", fn := fun _ => fun
  | [d] => { results := [.lit (.bool true)], args := [d] }
  | _ => none }
def fnProofsToldRow : OpenClaim := { program := "ythnahalboomkoaagreat", sum := "4b16bb93eceeabbb7027e836df008757fb20448e454247a3c101ff8c385d484c", func := "loop.example/g00321/laws.FnProofsTold", spec := "fnProofsTold", unfollowed := true, recurses := true, apart := false }
def FnProofsToldSaid : Prop := fnProofsToldRow.holds Tryz.pinned (OpenSpec.ofChange fnProofsToldSpec)

/-- ITS FALSE NEIGHBOUR: 'it returns false'. Refute it at one input. -/
def fnProofsToldWrong : ChangeSpec := { name := "fnProofsTold", fn := fun _ => fun
  | [d] => { results := [.lit (.bool false)], args := [d] }
  | _ => none }
def FnProofsToldWrongFalsely : Prop := fnProofsToldRow.holds Tryz.pinned (OpenSpec.ofChange fnProofsToldWrong)

/-- 'laws.FnExactMakeKeys': WHATEVER THE INPUT: true; the input reads as it did. -/
def fnExactMakeKeysSpec : ChangeSpec := { name := "fnExactMakeKeys", fn := fun _ => fun
  | [d1, d2] => { results := [.lit (.bool true)], args := [d1, d2] }
  | _ => none }
def fnExactMakeKeysRow : OpenClaim := { program := "ythnahalboomkoaagreat", sum := "4b16bb93eceeabbb7027e836df008757fb20448e454247a3c101ff8c385d484c", func := "loop.example/g00321/laws.FnExactMakeKeys", spec := "fnExactMakeKeys", unfollowed := true, recurses := true, apart := false }
def FnExactMakeKeysSaid : Prop := fnExactMakeKeysRow.holds Tryz.pinned (OpenSpec.ofChange fnExactMakeKeysSpec)

/-- ITS FALSE NEIGHBOUR: 'it returns false'. Refute it at one input. -/
def fnExactMakeKeysWrong : ChangeSpec := { name := "fnExactMakeKeys", fn := fun _ => fun
  | [d1, d2] => { results := [.lit (.bool false)], args := [d1, d2] }
  | _ => none }
def FnExactMakeKeysWrongFalsely : Prop := fnExactMakeKeysRow.holds Tryz.pinned (OpenSpec.ofChange fnExactMakeKeysWrong)

/- THE SECOND FORM. 'bulk': how many values and letters a reading holds, each counted each time it is reached (what is shared counts as often as it is met; a slice's spare places count too). A statement '..UptoSaid' is the law's where the arguments, and the package variables that the reading takes, are together of bulk at most 1048576: NARROWER than '..Said'. Prove '..Said' where nothing that the law and all that it calls make is longer than what came in: it says more and counts as full. Else prove '..UptoSaid'. A law counts once. -/
mutual
def uptoBulk {H : Type} : DataW H → Nat
  | .lit (.string bytes) => bytes.length + 1
  | .lit _ => 1
  | .nil => 1
  | .ptr d => uptoBulk d + 1
  | .slice elems spare => uptoBulkAll elems + uptoBulkAll spare + 1
  | .agg parts => uptoBulkAll parts + 1
  | .iface _ d => uptoBulk d + 1
  | .map entries => uptoBulkEntries entries + 1
  | .held _ => 1
def uptoBulkAll {H : Type} : List (DataW H) → Nat
  | [] => 0
  | d :: r => uptoBulk d + uptoBulkAll r
def uptoBulkEntries {H : Type} : List (Lit × DataW H) → Nat
  | [] => 0
  | x :: r => uptoBulkEntry x + uptoBulkEntries r
def uptoBulkEntry {H : Type} : Lit × DataW H → Nat
  | (.string bytes, d) => bytes.length + uptoBulk d + 1
  | (_, d) => uptoBulk d + 1
 end
def uptoSmall : (H : Type) → List (DataW H) → Bool := fun _ ds => decide (uptoBulkAll ds ≤ 1048576)
def OpenSpec.upto (s : _root_.Go.ChangeSpec) : _root_.Go.OpenSpec := { _root_.Go.OpenSpec.ofChange s with cond := some uptoSmall }

/-- 'laws.FnProves', WHERE WHAT IT READS IS OF BULK AT MOST 1048576: true; the input reads as it did. -/
def fnProvesUptoRow : OpenClaim := { program := "ythnahalboomkoaagreat", sum := "4b16bb93eceeabbb7027e836df008757fb20448e454247a3c101ff8c385d484c", func := "loop.example/g00321/laws.FnProves", spec := "fnProves", unfollowed := true, recurses := true, apart := false, narrowed := true }
def FnProvesUptoSaid : Prop := fnProvesUptoRow.holds Tryz.pinned (OpenSpec.upto fnProvesSpec)

/-- 'laws.FnProvesOther', WHERE WHAT IT READS IS OF BULK AT MOST 1048576: true; the input reads as it did. -/
def fnProvesOtherUptoRow : OpenClaim := { program := "ythnahalboomkoaagreat", sum := "4b16bb93eceeabbb7027e836df008757fb20448e454247a3c101ff8c385d484c", func := "loop.example/g00321/laws.FnProvesOther", spec := "fnProvesOther", unfollowed := true, recurses := true, apart := false, narrowed := true }
def FnProvesOtherUptoSaid : Prop := fnProvesOtherUptoRow.holds Tryz.pinned (OpenSpec.upto fnProvesOtherSpec)

/-- 'laws.FnProofsTold', WHERE WHAT IT READS IS OF BULK AT MOST 1048576: true; the input reads as it did. -/
def fnProofsToldUptoRow : OpenClaim := { program := "ythnahalboomkoaagreat", sum := "4b16bb93eceeabbb7027e836df008757fb20448e454247a3c101ff8c385d484c", func := "loop.example/g00321/laws.FnProofsTold", spec := "fnProofsTold", unfollowed := true, recurses := true, apart := false, narrowed := true }
def FnProofsToldUptoSaid : Prop := fnProofsToldUptoRow.holds Tryz.pinned (OpenSpec.upto fnProofsToldSpec)

/-- 'laws.FnExactMakeKeys', WHERE WHAT IT READS IS OF BULK AT MOST 1048576: true; the input reads as it did. -/
def fnExactMakeKeysUptoRow : OpenClaim := { program := "ythnahalboomkoaagreat", sum := "4b16bb93eceeabbb7027e836df008757fb20448e454247a3c101ff8c385d484c", func := "loop.example/g00321/laws.FnExactMakeKeys", spec := "fnExactMakeKeys", unfollowed := true, recurses := true, apart := false, narrowed := true }
def FnExactMakeKeysUptoSaid : Prop := fnExactMakeKeysUptoRow.holds Tryz.pinned (OpenSpec.upto fnExactMakeKeysSpec)

end Rows
end Go.Proofs.YthnahalboomkoaaGreat
