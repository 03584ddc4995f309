/-
  No cell of these rows narrows 'for every input' (looked for: loops, veiled, ifaces, maps, wideKeys, modest, calm, conditions, laid).
  DERIVED. THE GIVEN ROWS OF THIS SEAT. 6 by the template 'for every input the law returns true; each argument reads behind the call as it read before'; 0 by the template 'total and deterministic' (their statements: YtckhbflolccinaaTotals.lean).
  GIVEN WITH THE SEED: the statements are not yours to turn. If you find one false, say at which input.
  Laid BY PROGRAM, IN A SANDBOX (cutbox-rows.mjs): the forced cells as the released guide's own fill.sh prints them over the translation 5b074762e47d4969… (all of the seat's roots in one cut). By AI agents, Wed Nov 11 2026. No macro, syntax, notation, axiom, sorry.
-/
import Derived.Test.YtckhbflolccinaaChecked
import GoSem.Claim
import GoSem.ClaimJoined
import GoSem.ClaimMapViews
import Derived.JoinedTies
import Derived.KernelRfl
namespace Go.Proofs.Ytckhbflolccinaa
/- THE CELL 'sum', in the pinned program and in every row, IS THE sha256 OF THE DUMP (.gsa) THAT YtckhbflolccinaaProg.lean LOADS. Nothing in Lean hashes anything: it is a label: what it is worth is what the hold of that sum in a sandbox is worth. -/
noncomputable def Try.pinned : Pinned := { name := "ytckhbflolccinaa", sum := "5b074762e47d4969193cd3a66c07069fb9d6e6aeec81a7bac2b53a1a8fca0976", checked := Try.checked }
namespace Rows
def none {H : Type} : Left H := { results := [], args := [] }

/-- 'laws.FnPairings': WHATEVER THE INPUT: true; the input reads as it did. -/
def fnPairingsSpec : ChangeSpec := { name := "fnPairings", fn := fun _ => fun
  | [d] => { results := [.lit (.bool true)], args := [d] }
  | _ => none }
def fnPairingsRow : OpenClaim := { program := "ytckhbflolccinaa", sum := "5b074762e47d4969193cd3a66c07069fb9d6e6aeec81a7bac2b53a1a8fca0976", func := "loop.example/g00321/laws.FnPairings", spec := "fnPairings", unfollowed := true, recurses := true, apart := false }
def FnPairingsSaid : Prop := fnPairingsRow.holds Try.pinned (OpenSpec.ofChange fnPairingsSpec)

/-- ITS FALSE NEIGHBOUR: 'it returns false'. Refute it at one input. -/
def fnPairingsWrong : ChangeSpec := { name := "fnPairings", fn := fun _ => fun
  | [d] => { results := [.lit (.bool false)], args := [d] }
  | _ => none }
def FnPairingsWrongFalsely : Prop := fnPairingsRow.holds Try.pinned (OpenSpec.ofChange fnPairingsWrong)

/-- 'laws.FnPairsKnown': WHATEVER THE INPUT: true; the input reads as it did. -/
def fnPairsKnownSpec : ChangeSpec := { name := "fnPairsKnown", fn := fun _ => fun
  | [d] => { results := [.lit (.bool true)], args := [d] }
  | _ => none }
def fnPairsKnownRow : OpenClaim := { program := "ytckhbflolccinaa", sum := "5b074762e47d4969193cd3a66c07069fb9d6e6aeec81a7bac2b53a1a8fca0976", func := "loop.example/g00321/laws.FnPairsKnown", spec := "fnPairsKnown", unfollowed := true, recurses := true, apart := false }
def FnPairsKnownSaid : Prop := fnPairsKnownRow.holds Try.pinned (OpenSpec.ofChange fnPairsKnownSpec)

/-- ITS FALSE NEIGHBOUR: 'it returns false'. Refute it at one input. -/
def fnPairsKnownWrong : ChangeSpec := { name := "fnPairsKnown", fn := fun _ => fun
  | [d] => { results := [.lit (.bool false)], args := [d] }
  | _ => none }
def FnPairsKnownWrongFalsely : Prop := fnPairsKnownRow.holds Try.pinned (OpenSpec.ofChange fnPairsKnownWrong)

/-- 'laws.FnExactPairLine': WHATEVER THE INPUT: true; the input reads as it did. -/
def fnExactPairLineSpec : ChangeSpec := { name := "fnExactPairLine", fn := fun _ => fun
  | [d1, d2, d3] => { results := [.lit (.bool true)], args := [d1, d2, d3] }
  | _ => none }
def fnExactPairLineRow : OpenClaim := { program := "ytckhbflolccinaa", sum := "5b074762e47d4969193cd3a66c07069fb9d6e6aeec81a7bac2b53a1a8fca0976", func := "loop.example/g00321/laws.FnExactPairLine", spec := "fnExactPairLine", apart := false }
def FnExactPairLineSaid : Prop := fnExactPairLineRow.holds Try.pinned (OpenSpec.ofChange fnExactPairLineSpec)

/-- ITS FALSE NEIGHBOUR: 'it returns false'. Refute it at one input. -/
def fnExactPairLineWrong : ChangeSpec := { name := "fnExactPairLine", fn := fun _ => fun
  | [d1, d2, d3] => { results := [.lit (.bool false)], args := [d1, d2, d3] }
  | _ => none }
def FnExactPairLineWrongFalsely : Prop := fnExactPairLineRow.holds Try.pinned (OpenSpec.ofChange fnExactPairLineWrong)

/-- 'laws.FnExactMiller': WHATEVER THE INPUT: true; the input reads as it did. -/
def fnExactMillerSpec : ChangeSpec := { name := "fnExactMiller", fn := fun _ => fun
  | [d1, d2] => { results := [.lit (.bool true)], args := [d1, d2] }
  | _ => none }
def fnExactMillerRow : OpenClaim := { program := "ytckhbflolccinaa", sum := "5b074762e47d4969193cd3a66c07069fb9d6e6aeec81a7bac2b53a1a8fca0976", func := "loop.example/g00321/laws.FnExactMiller", spec := "fnExactMiller", unfollowed := true, recurses := true, apart := false }
def FnExactMillerSaid : Prop := fnExactMillerRow.holds Try.pinned (OpenSpec.ofChange fnExactMillerSpec)

/-- ITS FALSE NEIGHBOUR: 'it returns false'. Refute it at one input. -/
def fnExactMillerWrong : ChangeSpec := { name := "fnExactMiller", fn := fun _ => fun
  | [d1, d2] => { results := [.lit (.bool false)], args := [d1, d2] }
  | _ => none }
def FnExactMillerWrongFalsely : Prop := fnExactMillerRow.holds Try.pinned (OpenSpec.ofChange fnExactMillerWrong)

/-- 'laws.FnExactPairing': WHATEVER THE INPUT: true; the input reads as it did. -/
def fnExactPairingSpec : ChangeSpec := { name := "fnExactPairing", fn := fun _ => fun
  | [d1, d2] => { results := [.lit (.bool true)], args := [d1, d2] }
  | _ => none }
def fnExactPairingRow : OpenClaim := { program := "ytckhbflolccinaa", sum := "5b074762e47d4969193cd3a66c07069fb9d6e6aeec81a7bac2b53a1a8fca0976", func := "loop.example/g00321/laws.FnExactPairing", spec := "fnExactPairing", unfollowed := true, recurses := true, apart := false }
def FnExactPairingSaid : Prop := fnExactPairingRow.holds Try.pinned (OpenSpec.ofChange fnExactPairingSpec)

/-- ITS FALSE NEIGHBOUR: 'it returns false'. Refute it at one input. -/
def fnExactPairingWrong : ChangeSpec := { name := "fnExactPairing", fn := fun _ => fun
  | [d1, d2] => { results := [.lit (.bool false)], args := [d1, d2] }
  | _ => none }
def FnExactPairingWrongFalsely : Prop := fnExactPairingRow.holds Try.pinned (OpenSpec.ofChange fnExactPairingWrong)

/-- 'laws.FnExactPairsRight': WHATEVER THE INPUT: true; the input reads as it did. -/
def fnExactPairsRightSpec : ChangeSpec := { name := "fnExactPairsRight", fn := fun _ => fun
  | [d1, d2] => { results := [.lit (.bool true)], args := [d1, d2] }
  | _ => none }
def fnExactPairsRightRow : OpenClaim := { program := "ytckhbflolccinaa", sum := "5b074762e47d4969193cd3a66c07069fb9d6e6aeec81a7bac2b53a1a8fca0976", func := "loop.example/g00321/laws.FnExactPairsRight", spec := "fnExactPairsRight", unfollowed := true, recurses := true, apart := false }
def FnExactPairsRightSaid : Prop := fnExactPairsRightRow.holds Try.pinned (OpenSpec.ofChange fnExactPairsRightSpec)

/-- ITS FALSE NEIGHBOUR: 'it returns false'. Refute it at one input. -/
def fnExactPairsRightWrong : ChangeSpec := { name := "fnExactPairsRight", fn := fun _ => fun
  | [d1, d2] => { results := [.lit (.bool false)], args := [d1, d2] }
  | _ => none }
def FnExactPairsRightWrongFalsely : Prop := fnExactPairsRightRow.holds Try.pinned (OpenSpec.ofChange fnExactPairsRightWrong)

/- THE SECOND FORM. 'bulk': how many values and letters a reading holds, each counted each time it is reached (what is shared counts as often as it is met; a slice's spare places count too). A statement '..UptoSaid' is the law's where the arguments, and the package variables that the reading takes, are together of bulk at most 1048576: NARROWER than '..Said'. Prove '..Said' where nothing that the law and all that it calls make is longer than what came in: it says more and counts as full. Else prove '..UptoSaid'. A law counts once. -/
mutual
def uptoBulk {H : Type} : DataW H → Nat
  | .lit (.string bytes) => bytes.length + 1
  | .lit _ => 1
  | .nil => 1
  | .ptr d => uptoBulk d + 1
  | .slice elems spare => uptoBulkAll elems + uptoBulkAll spare + 1
  | .agg parts => uptoBulkAll parts + 1
  | .iface _ d => uptoBulk d + 1
  | .map entries => uptoBulkEntries entries + 1
  | .held _ => 1
def uptoBulkAll {H : Type} : List (DataW H) → Nat
  | [] => 0
  | d :: r => uptoBulk d + uptoBulkAll r
def uptoBulkEntries {H : Type} : List (Lit × DataW H) → Nat
  | [] => 0
  | x :: r => uptoBulkEntry x + uptoBulkEntries r
def uptoBulkEntry {H : Type} : Lit × DataW H → Nat
  | (.string bytes, d) => bytes.length + uptoBulk d + 1
  | (_, d) => uptoBulk d + 1
 end
def uptoSmall : (H : Type) → List (DataW H) → Bool := fun _ ds => decide (uptoBulkAll ds ≤ 1048576)
def OpenSpec.upto (s : _root_.Go.ChangeSpec) : _root_.Go.OpenSpec := { _root_.Go.OpenSpec.ofChange s with cond := some uptoSmall }

/-- 'laws.FnPairings', WHERE WHAT IT READS IS OF BULK AT MOST 1048576: true; the input reads as it did. -/
def fnPairingsUptoRow : OpenClaim := { program := "ytckhbflolccinaa", sum := "5b074762e47d4969193cd3a66c07069fb9d6e6aeec81a7bac2b53a1a8fca0976", func := "loop.example/g00321/laws.FnPairings", spec := "fnPairings", unfollowed := true, recurses := true, apart := false, narrowed := true }
def FnPairingsUptoSaid : Prop := fnPairingsUptoRow.holds Try.pinned (OpenSpec.upto fnPairingsSpec)

/-- 'laws.FnPairsKnown', WHERE WHAT IT READS IS OF BULK AT MOST 1048576: true; the input reads as it did. -/
def fnPairsKnownUptoRow : OpenClaim := { program := "ytckhbflolccinaa", sum := "5b074762e47d4969193cd3a66c07069fb9d6e6aeec81a7bac2b53a1a8fca0976", func := "loop.example/g00321/laws.FnPairsKnown", spec := "fnPairsKnown", unfollowed := true, recurses := true, apart := false, narrowed := true }
def FnPairsKnownUptoSaid : Prop := fnPairsKnownUptoRow.holds Try.pinned (OpenSpec.upto fnPairsKnownSpec)

/-- 'laws.FnExactPairLine', WHERE WHAT IT READS IS OF BULK AT MOST 1048576: true; the input reads as it did. -/
def fnExactPairLineUptoRow : OpenClaim := { program := "ytckhbflolccinaa", sum := "5b074762e47d4969193cd3a66c07069fb9d6e6aeec81a7bac2b53a1a8fca0976", func := "loop.example/g00321/laws.FnExactPairLine", spec := "fnExactPairLine", apart := false, narrowed := true }
def FnExactPairLineUptoSaid : Prop := fnExactPairLineUptoRow.holds Try.pinned (OpenSpec.upto fnExactPairLineSpec)

/-- 'laws.FnExactMiller', WHERE WHAT IT READS IS OF BULK AT MOST 1048576: true; the input reads as it did. -/
def fnExactMillerUptoRow : OpenClaim := { program := "ytckhbflolccinaa", sum := "5b074762e47d4969193cd3a66c07069fb9d6e6aeec81a7bac2b53a1a8fca0976", func := "loop.example/g00321/laws.FnExactMiller", spec := "fnExactMiller", unfollowed := true, recurses := true, apart := false, narrowed := true }
def FnExactMillerUptoSaid : Prop := fnExactMillerUptoRow.holds Try.pinned (OpenSpec.upto fnExactMillerSpec)

/-- 'laws.FnExactPairing', WHERE WHAT IT READS IS OF BULK AT MOST 1048576: true; the input reads as it did. -/
def fnExactPairingUptoRow : OpenClaim := { program := "ytckhbflolccinaa", sum := "5b074762e47d4969193cd3a66c07069fb9d6e6aeec81a7bac2b53a1a8fca0976", func := "loop.example/g00321/laws.FnExactPairing", spec := "fnExactPairing", unfollowed := true, recurses := true, apart := false, narrowed := true }
def FnExactPairingUptoSaid : Prop := fnExactPairingUptoRow.holds Try.pinned (OpenSpec.upto fnExactPairingSpec)

/-- 'laws.FnExactPairsRight', WHERE WHAT IT READS IS OF BULK AT MOST 1048576: true; the input reads as it did. -/
def fnExactPairsRightUptoRow : OpenClaim := { program := "ytckhbflolccinaa", sum := "5b074762e47d4969193cd3a66c07069fb9d6e6aeec81a7bac2b53a1a8fca0976", func := "loop.example/g00321/laws.FnExactPairsRight", spec := "fnExactPairsRight", unfollowed := true, recurses := true, apart := false, narrowed := true }
def FnExactPairsRightUptoSaid : Prop := fnExactPairsRightUptoRow.holds Try.pinned (OpenSpec.upto fnExactPairsRightSpec)

end Rows
end Go.Proofs.Ytckhbflolccinaa
