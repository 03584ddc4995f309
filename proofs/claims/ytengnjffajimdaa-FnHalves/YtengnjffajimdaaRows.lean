/-
  No cell of these rows narrows 'for every input' (looked for: loops, veiled, ifaces, maps, wideKeys, modest, calm, conditions, laid).
  DERIVED. THE GIVEN ROWS OF THIS SEAT. 6 by the template 'for every input the law returns true; each argument reads behind the call as it read before'; 0 by the template 'total and deterministic' (their statements: YtengnjffajimdaaTotals.lean).
  GIVEN WITH THE SEED: the statements are not yours to turn. If you find one false, say at which input.
  Laid BY PROGRAM, IN A SANDBOX (cutbox-rows.mjs): the forced cells as the released guide's own fill.sh prints them over the translation 58bcd36432c23165… (all of the seat's roots in one cut). By AI agents, Wed Nov 11 2026. No macro, syntax, notation, axiom, sorry.
-/
import Derived.Test.YtengnjffajimdaaChecked
import GoSem.Claim
import GoSem.ClaimJoined
import GoSem.ClaimMapViews
import Derived.JoinedTies
import Derived.KernelRfl
namespace Go.Proofs.Ytengnjffajimdaa
/- THE CELL 'sum', in the pinned program and in every row, IS THE sha256 OF THE DUMP (.gsa) THAT YtengnjffajimdaaProg.lean LOADS. Nothing in Lean hashes anything: it is a label: what it is worth is what the hold of that sum in a sandbox is worth. -/
noncomputable def Try.pinned : Pinned := { name := "ytengnjffajimdaa", sum := "58bcd36432c2316535a7dceb538d5d79c71eee5635840fb37fa0673d328fd468", checked := Try.checked }
namespace Rows
def none {H : Type} : Left H := { results := [], args := [] }

/-- 'laws.FnHalves': WHATEVER THE INPUT: true; the input reads as it did. -/
def fnHalvesSpec : ChangeSpec := { name := "fnHalves", fn := fun _ => fun
  | [d] => { results := [.lit (.bool true)], args := [d] }
  | _ => none }
def fnHalvesRow : OpenClaim := { program := "ytengnjffajimdaa", sum := "58bcd36432c2316535a7dceb538d5d79c71eee5635840fb37fa0673d328fd468", func := "loop.example/g00321/laws.FnHalves", spec := "fnHalves", apart := false }
def FnHalvesSaid : Prop := fnHalvesRow.holds Try.pinned (OpenSpec.ofChange fnHalvesSpec)

/-- ITS FALSE NEIGHBOUR: 'it returns false'. Refute it at one input. -/
def fnHalvesWrong : ChangeSpec := { name := "fnHalves", fn := fun _ => fun
  | [d] => { results := [.lit (.bool false)], args := [d] }
  | _ => none }
def FnHalvesWrongFalsely : Prop := fnHalvesRow.holds Try.pinned (OpenSpec.ofChange fnHalvesWrong)

/-- 'laws.FnExactNibblesOf': WHATEVER THE INPUT: true; the input reads as it did. -/
def fnExactNibblesOfSpec : ChangeSpec := { name := "fnExactNibblesOf", fn := fun _ => fun
  | [d] => { results := [.lit (.bool true)], args := [d] }
  | _ => none }
def fnExactNibblesOfRow : OpenClaim := { program := "ytengnjffajimdaa", sum := "58bcd36432c2316535a7dceb538d5d79c71eee5635840fb37fa0673d328fd468", func := "loop.example/g00321/laws.FnExactNibblesOf", spec := "fnExactNibblesOf", apart := false }
def FnExactNibblesOfSaid : Prop := fnExactNibblesOfRow.holds Try.pinned (OpenSpec.ofChange fnExactNibblesOfSpec)

/-- ITS FALSE NEIGHBOUR: 'it returns false'. Refute it at one input. -/
def fnExactNibblesOfWrong : ChangeSpec := { name := "fnExactNibblesOf", fn := fun _ => fun
  | [d] => { results := [.lit (.bool false)], args := [d] }
  | _ => none }
def FnExactNibblesOfWrongFalsely : Prop := fnExactNibblesOfRow.holds Try.pinned (OpenSpec.ofChange fnExactNibblesOfWrong)

/-- 'laws.FnExactNibblesOk': WHATEVER THE INPUT: true; the input reads as it did. -/
def fnExactNibblesOkSpec : ChangeSpec := { name := "fnExactNibblesOk", fn := fun _ => fun
  | [d] => { results := [.lit (.bool true)], args := [d] }
  | _ => none }
def fnExactNibblesOkRow : OpenClaim := { program := "ytengnjffajimdaa", sum := "58bcd36432c2316535a7dceb538d5d79c71eee5635840fb37fa0673d328fd468", func := "loop.example/g00321/laws.FnExactNibblesOk", spec := "fnExactNibblesOk", apart := false }
def FnExactNibblesOkSaid : Prop := fnExactNibblesOkRow.holds Try.pinned (OpenSpec.ofChange fnExactNibblesOkSpec)

/-- ITS FALSE NEIGHBOUR: 'it returns false'. Refute it at one input. -/
def fnExactNibblesOkWrong : ChangeSpec := { name := "fnExactNibblesOk", fn := fun _ => fun
  | [d] => { results := [.lit (.bool false)], args := [d] }
  | _ => none }
def FnExactNibblesOkWrongFalsely : Prop := fnExactNibblesOkRow.holds Try.pinned (OpenSpec.ofChange fnExactNibblesOkWrong)

/-- 'laws.FnExactPrefixText': WHATEVER THE INPUT: true; the input reads as it did. -/
def fnExactPrefixTextSpec : ChangeSpec := { name := "fnExactPrefixText", fn := fun _ => fun
  | [d1, d2] => { results := [.lit (.bool true)], args := [d1, d2] }
  | _ => none }
def fnExactPrefixTextRow : OpenClaim := { program := "ytengnjffajimdaa", sum := "58bcd36432c2316535a7dceb538d5d79c71eee5635840fb37fa0673d328fd468", func := "loop.example/g00321/laws.FnExactPrefixText", spec := "fnExactPrefixText", apart := false }
def FnExactPrefixTextSaid : Prop := fnExactPrefixTextRow.holds Try.pinned (OpenSpec.ofChange fnExactPrefixTextSpec)

/-- ITS FALSE NEIGHBOUR: 'it returns false'. Refute it at one input. -/
def fnExactPrefixTextWrong : ChangeSpec := { name := "fnExactPrefixText", fn := fun _ => fun
  | [d1, d2] => { results := [.lit (.bool false)], args := [d1, d2] }
  | _ => none }
def FnExactPrefixTextWrongFalsely : Prop := fnExactPrefixTextRow.holds Try.pinned (OpenSpec.ofChange fnExactPrefixTextWrong)

/-- 'laws.FnExactReadPrefix': WHATEVER THE INPUT: true; the input reads as it did. -/
def fnExactReadPrefixSpec : ChangeSpec := { name := "fnExactReadPrefix", fn := fun _ => fun
  | [d] => { results := [.lit (.bool true)], args := [d] }
  | _ => none }
def fnExactReadPrefixRow : OpenClaim := { program := "ytengnjffajimdaa", sum := "58bcd36432c2316535a7dceb538d5d79c71eee5635840fb37fa0673d328fd468", func := "loop.example/g00321/laws.FnExactReadPrefix", spec := "fnExactReadPrefix", apart := false }
def FnExactReadPrefixSaid : Prop := fnExactReadPrefixRow.holds Try.pinned (OpenSpec.ofChange fnExactReadPrefixSpec)

/-- ITS FALSE NEIGHBOUR: 'it returns false'. Refute it at one input. -/
def fnExactReadPrefixWrong : ChangeSpec := { name := "fnExactReadPrefix", fn := fun _ => fun
  | [d] => { results := [.lit (.bool false)], args := [d] }
  | _ => none }
def FnExactReadPrefixWrongFalsely : Prop := fnExactReadPrefixRow.holds Try.pinned (OpenSpec.ofChange fnExactReadPrefixWrong)

/-- 'laws.FnExactCommon': WHATEVER THE INPUT: true; the input reads as it did. -/
def fnExactCommonSpec : ChangeSpec := { name := "fnExactCommon", fn := fun _ => fun
  | [d1, d2] => { results := [.lit (.bool true)], args := [d1, d2] }
  | _ => none }
def fnExactCommonRow : OpenClaim := { program := "ytengnjffajimdaa", sum := "58bcd36432c2316535a7dceb538d5d79c71eee5635840fb37fa0673d328fd468", func := "loop.example/g00321/laws.FnExactCommon", spec := "fnExactCommon", apart := false }
def FnExactCommonSaid : Prop := fnExactCommonRow.holds Try.pinned (OpenSpec.ofChange fnExactCommonSpec)

/-- ITS FALSE NEIGHBOUR: 'it returns false'. Refute it at one input. -/
def fnExactCommonWrong : ChangeSpec := { name := "fnExactCommon", fn := fun _ => fun
  | [d1, d2] => { results := [.lit (.bool false)], args := [d1, d2] }
  | _ => none }
def FnExactCommonWrongFalsely : Prop := fnExactCommonRow.holds Try.pinned (OpenSpec.ofChange fnExactCommonWrong)

/- THE SECOND FORM. 'bulk': how many values and letters a reading holds, each counted each time it is reached (what is shared counts as often as it is met; a slice's spare places count too). A statement '..UptoSaid' is the law's where the arguments, and the package variables that the reading takes, are together of bulk at most 1048576: NARROWER than '..Said'. Prove '..Said' where nothing that the law and all that it calls make is longer than what came in: it says more and counts as full. Else prove '..UptoSaid'. A law counts once. -/
mutual
def uptoBulk {H : Type} : DataW H → Nat
  | .lit (.string bytes) => bytes.length + 1
  | .lit _ => 1
  | .nil => 1
  | .ptr d => uptoBulk d + 1
  | .slice elems spare => uptoBulkAll elems + uptoBulkAll spare + 1
  | .agg parts => uptoBulkAll parts + 1
  | .iface _ d => uptoBulk d + 1
  | .map entries => uptoBulkEntries entries + 1
  | .held _ => 1
def uptoBulkAll {H : Type} : List (DataW H) → Nat
  | [] => 0
  | d :: r => uptoBulk d + uptoBulkAll r
def uptoBulkEntries {H : Type} : List (Lit × DataW H) → Nat
  | [] => 0
  | x :: r => uptoBulkEntry x + uptoBulkEntries r
def uptoBulkEntry {H : Type} : Lit × DataW H → Nat
  | (.string bytes, d) => bytes.length + uptoBulk d + 1
  | (_, d) => uptoBulk d + 1
 end
def uptoSmall : (H : Type) → List (DataW H) → Bool := fun _ ds => decide (uptoBulkAll ds ≤ 1048576)
def OpenSpec.upto (s : _root_.Go.ChangeSpec) : _root_.Go.OpenSpec := { _root_.Go.OpenSpec.ofChange s with cond := some uptoSmall }

/-- 'laws.FnHalves', WHERE WHAT IT READS IS OF BULK AT MOST 1048576: true; the input reads as it did. -/
def fnHalvesUptoRow : OpenClaim := { program := "ytengnjffajimdaa", sum := "58bcd36432c2316535a7dceb538d5d79c71eee5635840fb37fa0673d328fd468", func := "loop.example/g00321/laws.FnHalves", spec := "fnHalves", apart := false, narrowed := true }
def FnHalvesUptoSaid : Prop := fnHalvesUptoRow.holds Try.pinned (OpenSpec.upto fnHalvesSpec)

/-- 'laws.FnExactNibblesOf', WHERE WHAT IT READS IS OF BULK AT MOST 1048576: true; the input reads as it did. -/
def fnExactNibblesOfUptoRow : OpenClaim := { program := "ytengnjffajimdaa", sum := "58bcd36432c2316535a7dceb538d5d79c71eee5635840fb37fa0673d328fd468", func := "loop.example/g00321/laws.FnExactNibblesOf", spec := "fnExactNibblesOf", apart := false, narrowed := true }
def FnExactNibblesOfUptoSaid : Prop := fnExactNibblesOfUptoRow.holds Try.pinned (OpenSpec.upto fnExactNibblesOfSpec)

/-- 'laws.FnExactNibblesOk', WHERE WHAT IT READS IS OF BULK AT MOST 1048576: true; the input reads as it did. -/
def fnExactNibblesOkUptoRow : OpenClaim := { program := "ytengnjffajimdaa", sum := "58bcd36432c2316535a7dceb538d5d79c71eee5635840fb37fa0673d328fd468", func := "loop.example/g00321/laws.FnExactNibblesOk", spec := "fnExactNibblesOk", apart := false, narrowed := true }
def FnExactNibblesOkUptoSaid : Prop := fnExactNibblesOkUptoRow.holds Try.pinned (OpenSpec.upto fnExactNibblesOkSpec)

/-- 'laws.FnExactPrefixText', WHERE WHAT IT READS IS OF BULK AT MOST 1048576: true; the input reads as it did. -/
def fnExactPrefixTextUptoRow : OpenClaim := { program := "ytengnjffajimdaa", sum := "58bcd36432c2316535a7dceb538d5d79c71eee5635840fb37fa0673d328fd468", func := "loop.example/g00321/laws.FnExactPrefixText", spec := "fnExactPrefixText", apart := false, narrowed := true }
def FnExactPrefixTextUptoSaid : Prop := fnExactPrefixTextUptoRow.holds Try.pinned (OpenSpec.upto fnExactPrefixTextSpec)

/-- 'laws.FnExactReadPrefix', WHERE WHAT IT READS IS OF BULK AT MOST 1048576: true; the input reads as it did. -/
def fnExactReadPrefixUptoRow : OpenClaim := { program := "ytengnjffajimdaa", sum := "58bcd36432c2316535a7dceb538d5d79c71eee5635840fb37fa0673d328fd468", func := "loop.example/g00321/laws.FnExactReadPrefix", spec := "fnExactReadPrefix", apart := false, narrowed := true }
def FnExactReadPrefixUptoSaid : Prop := fnExactReadPrefixUptoRow.holds Try.pinned (OpenSpec.upto fnExactReadPrefixSpec)

/-- 'laws.FnExactCommon', WHERE WHAT IT READS IS OF BULK AT MOST 1048576: true; the input reads as it did. -/
def fnExactCommonUptoRow : OpenClaim := { program := "ytengnjffajimdaa", sum := "58bcd36432c2316535a7dceb538d5d79c71eee5635840fb37fa0673d328fd468", func := "loop.example/g00321/laws.FnExactCommon", spec := "fnExactCommon", apart := false, narrowed := true }
def FnExactCommonUptoSaid : Prop := fnExactCommonUptoRow.holds Try.pinned (OpenSpec.upto fnExactCommonSpec)

end Rows
end Go.Proofs.Ytengnjffajimdaa
