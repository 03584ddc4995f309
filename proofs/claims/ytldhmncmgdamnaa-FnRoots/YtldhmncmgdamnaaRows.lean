/-
  No cell of these rows narrows 'for every input' (looked for: loops, veiled, ifaces, maps, wideKeys, modest, calm, conditions, laid).
  DERIVED. THE GIVEN ROWS OF THIS SEAT. 6 by the template 'for every input the law returns true; each argument reads behind the call as it read before'; 0 by the template 'total and deterministic' (their statements: YtldhmncmgdamnaaTotals.lean).
  GIVEN WITH THE SEED: the statements are not yours to turn. If you find one false, say at which input.
  Laid BY PROGRAM, IN A SANDBOX (cutbox-rows.mjs): the forced cells as the released guide's own fill.sh prints them over the translation 8f6d61efdc17e46a… (all of the seat's roots in one cut). By AI agents, Wed Nov 11 2026. No macro, syntax, notation, axiom, sorry.
-/
import Derived.Test.YtldhmncmgdamnaaChecked
import GoSem.Claim
import GoSem.ClaimJoined
import GoSem.ClaimMapViews
import Derived.JoinedTies
import Derived.KernelRfl
namespace Go.Proofs.Ytldhmncmgdamnaa
/- THE CELL 'sum', in the pinned program and in every row, IS THE sha256 OF THE DUMP (.gsa) THAT YtldhmncmgdamnaaProg.lean LOADS. Nothing in Lean hashes anything: it is a label: what it is worth is what the hold of that sum in a sandbox is worth. -/
noncomputable def Try.pinned : Pinned := { name := "ytldhmncmgdamnaa", sum := "8f6d61efdc17e46a2af8b3cef6354942dfe8796dd0c01d9ce153f86fa416616c", checked := Try.checked }
namespace Rows
def none {H : Type} : Left H := { results := [], args := [] }

/-- 'laws.FnField': WHATEVER THE INPUT: true; the input reads as it did. -/
def fnFieldSpec : ChangeSpec := { name := "fnField", fn := fun _ => fun
  | [d] => { results := [.lit (.bool true)], args := [d] }
  | _ => none }
def fnFieldRow : OpenClaim := { program := "ytldhmncmgdamnaa", sum := "8f6d61efdc17e46a2af8b3cef6354942dfe8796dd0c01d9ce153f86fa416616c", func := "loop.example/g00321/laws.FnField", spec := "fnField", apart := false }
def FnFieldSaid : Prop := fnFieldRow.holds Try.pinned (OpenSpec.ofChange fnFieldSpec)

/-- ITS FALSE NEIGHBOUR: 'it returns false'. Refute it at one input. -/
def fnFieldWrong : ChangeSpec := { name := "fnField", fn := fun _ => fun
  | [d] => { results := [.lit (.bool false)], args := [d] }
  | _ => none }
def FnFieldWrongFalsely : Prop := fnFieldRow.holds Try.pinned (OpenSpec.ofChange fnFieldWrong)

/-- 'laws.FnRoots': WHATEVER THE INPUT: true; the input reads as it did. -/
def fnRootsSpec : ChangeSpec := { name := "fnRoots", fn := fun _ => fun
  | [d] => { results := [.lit (.bool true)], args := [d] }
  | _ => none }
def fnRootsRow : OpenClaim := { program := "ytldhmncmgdamnaa", sum := "8f6d61efdc17e46a2af8b3cef6354942dfe8796dd0c01d9ce153f86fa416616c", func := "loop.example/g00321/laws.FnRoots", spec := "fnRoots", apart := false }
def FnRootsSaid : Prop := fnRootsRow.holds Try.pinned (OpenSpec.ofChange fnRootsSpec)

/-- ITS FALSE NEIGHBOUR: 'it returns false'. Refute it at one input. -/
def fnRootsWrong : ChangeSpec := { name := "fnRoots", fn := fun _ => fun
  | [d] => { results := [.lit (.bool false)], args := [d] }
  | _ => none }
def FnRootsWrongFalsely : Prop := fnRootsRow.holds Try.pinned (OpenSpec.ofChange fnRootsWrong)

/-- 'laws.FnExactFpOk': WHATEVER THE INPUT: true; the input reads as it did. -/
def fnExactFpOkSpec : ChangeSpec := { name := "fnExactFpOk", fn := fun _ => fun
  | [d] => { results := [.lit (.bool true)], args := [d] }
  | _ => none }
def fnExactFpOkRow : OpenClaim := { program := "ytldhmncmgdamnaa", sum := "8f6d61efdc17e46a2af8b3cef6354942dfe8796dd0c01d9ce153f86fa416616c", func := "loop.example/g00321/laws.FnExactFpOk", spec := "fnExactFpOk", apart := false }
def FnExactFpOkSaid : Prop := fnExactFpOkRow.holds Try.pinned (OpenSpec.ofChange fnExactFpOkSpec)

/-- ITS FALSE NEIGHBOUR: 'it returns false'. Refute it at one input. -/
def fnExactFpOkWrong : ChangeSpec := { name := "fnExactFpOk", fn := fun _ => fun
  | [d] => { results := [.lit (.bool false)], args := [d] }
  | _ => none }
def FnExactFpOkWrongFalsely : Prop := fnExactFpOkRow.holds Try.pinned (OpenSpec.ofChange fnExactFpOkWrong)

/-- 'laws.FnExactFpOf': WHATEVER THE INPUT: true; the input reads as it did. -/
def fnExactFpOfSpec : ChangeSpec := { name := "fnExactFpOf", fn := fun _ => fun
  | [d] => { results := [.lit (.bool true)], args := [d] }
  | _ => none }
def fnExactFpOfRow : OpenClaim := { program := "ytldhmncmgdamnaa", sum := "8f6d61efdc17e46a2af8b3cef6354942dfe8796dd0c01d9ce153f86fa416616c", func := "loop.example/g00321/laws.FnExactFpOf", spec := "fnExactFpOf", apart := false }
def FnExactFpOfSaid : Prop := fnExactFpOfRow.holds Try.pinned (OpenSpec.ofChange fnExactFpOfSpec)

/-- ITS FALSE NEIGHBOUR: 'it returns false'. Refute it at one input. -/
def fnExactFpOfWrong : ChangeSpec := { name := "fnExactFpOf", fn := fun _ => fun
  | [d] => { results := [.lit (.bool false)], args := [d] }
  | _ => none }
def FnExactFpOfWrongFalsely : Prop := fnExactFpOfRow.holds Try.pinned (OpenSpec.ofChange fnExactFpOfWrong)

/-- 'laws.FnExactFpAdd': WHATEVER THE INPUT: true; the input reads as it did. -/
def fnExactFpAddSpec : ChangeSpec := { name := "fnExactFpAdd", fn := fun _ => fun
  | [d1, d2] => { results := [.lit (.bool true)], args := [d1, d2] }
  | _ => none }
def fnExactFpAddRow : OpenClaim := { program := "ytldhmncmgdamnaa", sum := "8f6d61efdc17e46a2af8b3cef6354942dfe8796dd0c01d9ce153f86fa416616c", func := "loop.example/g00321/laws.FnExactFpAdd", spec := "fnExactFpAdd", apart := false }
def FnExactFpAddSaid : Prop := fnExactFpAddRow.holds Try.pinned (OpenSpec.ofChange fnExactFpAddSpec)

/-- ITS FALSE NEIGHBOUR: 'it returns false'. Refute it at one input. -/
def fnExactFpAddWrong : ChangeSpec := { name := "fnExactFpAdd", fn := fun _ => fun
  | [d1, d2] => { results := [.lit (.bool false)], args := [d1, d2] }
  | _ => none }
def FnExactFpAddWrongFalsely : Prop := fnExactFpAddRow.holds Try.pinned (OpenSpec.ofChange fnExactFpAddWrong)

/-- 'laws.FnExactFpSub': WHATEVER THE INPUT: true; the input reads as it did. -/
def fnExactFpSubSpec : ChangeSpec := { name := "fnExactFpSub", fn := fun _ => fun
  | [d1, d2] => { results := [.lit (.bool true)], args := [d1, d2] }
  | _ => none }
def fnExactFpSubRow : OpenClaim := { program := "ytldhmncmgdamnaa", sum := "8f6d61efdc17e46a2af8b3cef6354942dfe8796dd0c01d9ce153f86fa416616c", func := "loop.example/g00321/laws.FnExactFpSub", spec := "fnExactFpSub", apart := false }
def FnExactFpSubSaid : Prop := fnExactFpSubRow.holds Try.pinned (OpenSpec.ofChange fnExactFpSubSpec)

/-- ITS FALSE NEIGHBOUR: 'it returns false'. Refute it at one input. -/
def fnExactFpSubWrong : ChangeSpec := { name := "fnExactFpSub", fn := fun _ => fun
  | [d1, d2] => { results := [.lit (.bool false)], args := [d1, d2] }
  | _ => none }
def FnExactFpSubWrongFalsely : Prop := fnExactFpSubRow.holds Try.pinned (OpenSpec.ofChange fnExactFpSubWrong)

/- THE SECOND FORM. 'bulk': how many values and letters a reading holds, each counted each time it is reached (what is shared counts as often as it is met; a slice's spare places count too). A statement '..UptoSaid' is the law's where the arguments, and the package variables that the reading takes, are together of bulk at most 1048576: NARROWER than '..Said'. Prove '..Said' where nothing that the law and all that it calls make is longer than what came in: it says more and counts as full. Else prove '..UptoSaid'. A law counts once. -/
mutual
def uptoBulk {H : Type} : DataW H → Nat
  | .lit (.string bytes) => bytes.length + 1
  | .lit _ => 1
  | .nil => 1
  | .ptr d => uptoBulk d + 1
  | .slice elems spare => uptoBulkAll elems + uptoBulkAll spare + 1
  | .agg parts => uptoBulkAll parts + 1
  | .iface _ d => uptoBulk d + 1
  | .map entries => uptoBulkEntries entries + 1
  | .held _ => 1
def uptoBulkAll {H : Type} : List (DataW H) → Nat
  | [] => 0
  | d :: r => uptoBulk d + uptoBulkAll r
def uptoBulkEntries {H : Type} : List (Lit × DataW H) → Nat
  | [] => 0
  | x :: r => uptoBulkEntry x + uptoBulkEntries r
def uptoBulkEntry {H : Type} : Lit × DataW H → Nat
  | (.string bytes, d) => bytes.length + uptoBulk d + 1
  | (_, d) => uptoBulk d + 1
 end
def uptoSmall : (H : Type) → List (DataW H) → Bool := fun _ ds => decide (uptoBulkAll ds ≤ 1048576)
def OpenSpec.upto (s : _root_.Go.ChangeSpec) : _root_.Go.OpenSpec := { _root_.Go.OpenSpec.ofChange s with cond := some uptoSmall }

/-- 'laws.FnField', WHERE WHAT IT READS IS OF BULK AT MOST 1048576: true; the input reads as it did. -/
def fnFieldUptoRow : OpenClaim := { program := "ytldhmncmgdamnaa", sum := "8f6d61efdc17e46a2af8b3cef6354942dfe8796dd0c01d9ce153f86fa416616c", func := "loop.example/g00321/laws.FnField", spec := "fnField", apart := false, narrowed := true }
def FnFieldUptoSaid : Prop := fnFieldUptoRow.holds Try.pinned (OpenSpec.upto fnFieldSpec)

/-- 'laws.FnRoots', WHERE WHAT IT READS IS OF BULK AT MOST 1048576: true; the input reads as it did. -/
def fnRootsUptoRow : OpenClaim := { program := "ytldhmncmgdamnaa", sum := "8f6d61efdc17e46a2af8b3cef6354942dfe8796dd0c01d9ce153f86fa416616c", func := "loop.example/g00321/laws.FnRoots", spec := "fnRoots", apart := false, narrowed := true }
def FnRootsUptoSaid : Prop := fnRootsUptoRow.holds Try.pinned (OpenSpec.upto fnRootsSpec)

/-- 'laws.FnExactFpOk', WHERE WHAT IT READS IS OF BULK AT MOST 1048576: true; the input reads as it did. -/
def fnExactFpOkUptoRow : OpenClaim := { program := "ytldhmncmgdamnaa", sum := "8f6d61efdc17e46a2af8b3cef6354942dfe8796dd0c01d9ce153f86fa416616c", func := "loop.example/g00321/laws.FnExactFpOk", spec := "fnExactFpOk", apart := false, narrowed := true }
def FnExactFpOkUptoSaid : Prop := fnExactFpOkUptoRow.holds Try.pinned (OpenSpec.upto fnExactFpOkSpec)

/-- 'laws.FnExactFpOf', WHERE WHAT IT READS IS OF BULK AT MOST 1048576: true; the input reads as it did. -/
def fnExactFpOfUptoRow : OpenClaim := { program := "ytldhmncmgdamnaa", sum := "8f6d61efdc17e46a2af8b3cef6354942dfe8796dd0c01d9ce153f86fa416616c", func := "loop.example/g00321/laws.FnExactFpOf", spec := "fnExactFpOf", apart := false, narrowed := true }
def FnExactFpOfUptoSaid : Prop := fnExactFpOfUptoRow.holds Try.pinned (OpenSpec.upto fnExactFpOfSpec)

/-- 'laws.FnExactFpAdd', WHERE WHAT IT READS IS OF BULK AT MOST 1048576: true; the input reads as it did. -/
def fnExactFpAddUptoRow : OpenClaim := { program := "ytldhmncmgdamnaa", sum := "8f6d61efdc17e46a2af8b3cef6354942dfe8796dd0c01d9ce153f86fa416616c", func := "loop.example/g00321/laws.FnExactFpAdd", spec := "fnExactFpAdd", apart := false, narrowed := true }
def FnExactFpAddUptoSaid : Prop := fnExactFpAddUptoRow.holds Try.pinned (OpenSpec.upto fnExactFpAddSpec)

/-- 'laws.FnExactFpSub', WHERE WHAT IT READS IS OF BULK AT MOST 1048576: true; the input reads as it did. -/
def fnExactFpSubUptoRow : OpenClaim := { program := "ytldhmncmgdamnaa", sum := "8f6d61efdc17e46a2af8b3cef6354942dfe8796dd0c01d9ce153f86fa416616c", func := "loop.example/g00321/laws.FnExactFpSub", spec := "fnExactFpSub", apart := false, narrowed := true }
def FnExactFpSubUptoSaid : Prop := fnExactFpSubUptoRow.holds Try.pinned (OpenSpec.upto fnExactFpSubSpec)

end Rows
end Go.Proofs.Ytldhmncmgdamnaa
