/-
  DERIVED. GIVEN WITH THE SEED: THE CARDS: each row of YtkiljlmihoaaaaaDoorRows.lean that lists a variable, with what it lists TIED to the program's text (the seventh form; the later family's looks); each row that meets fmt, with fmt's text TOLD by the authors' own Lean function (tested against real Go, not proved from fmt's source: count such statements apart). THE CARD IS WHAT COUNTS. Prove the row's statement (the work); the ties are given (YtkiljlmihoaaaaaDoorTie.lean); close each card by the builder's one call (the guide's Derived/Test/ToyasCard.lean, 'card_holds'). Laid BY PROGRAM, IN A SANDBOX (cutbox-door.mjs). By AI agents, Wed Nov 11 2026. No macro, syntax, notation, axiom, sorry.
-/
import Derived.Test.YtkiljlmihoaaaaaDoorRows
import GoSem.ClaimSeven
namespace Go.Proofs.YtkiljlmihoaaaaaDoor
namespace Rows

/-- THE TIED CARD OF 'laws.FnBranches'. -/
def fnBranchesCard : Claim7 := { stood := { row := fnBranchesRow, standIns := [], harness := (true, "3722b5863406ed2f612b2af34b1bc87c3abfde463b44b8a194162b4353b5397d"), looks := false }, kinds := [], alts := [], laidByText := true, laidKinds := [.data], laidTests := true, laidLooks := .later }
def FnBranchesCardSaid : Prop := Claim7.holds Tryd.pinned (.plain (OpenSpec.ofChange fnBranchesSpec)) fnBranchesCard

/-- THE TIED CARD OF 'laws.FnOneLeaf'. -/
def fnOneLeafCard : Claim7 := { stood := { row := fnOneLeafRow, standIns := [], harness := (true, "3722b5863406ed2f612b2af34b1bc87c3abfde463b44b8a194162b4353b5397d"), looks := false }, kinds := [], alts := [], laidByText := true, laidKinds := [.data], laidTests := true, laidLooks := .later }
def FnOneLeafCardSaid : Prop := Claim7.holds Tryd.pinned (.plain (OpenSpec.ofChange fnOneLeafSpec)) fnOneLeafCard

/-- THE TIED CARD OF 'laws.FnExactRootOf'. -/
def fnExactRootOfCard : Claim7 := { stood := { row := fnExactRootOfRow, standIns := [], harness := (true, "3722b5863406ed2f612b2af34b1bc87c3abfde463b44b8a194162b4353b5397d"), looks := false }, kinds := [], alts := [], laidByText := true, laidKinds := [.data], laidTests := true, laidLooks := .later }
def FnExactRootOfCardSaid : Prop := Claim7.holds Tryd.pinned (.plain (OpenSpec.ofChange fnExactRootOfSpec)) fnExactRootOfCard

/-- THE TIED CARD OF 'laws.FnExactBranchOf'. -/
def fnExactBranchOfCard : Claim7 := { stood := { row := fnExactBranchOfRow, standIns := [], harness := (true, "3722b5863406ed2f612b2af34b1bc87c3abfde463b44b8a194162b4353b5397d"), looks := false }, kinds := [], alts := [], laidByText := true, laidKinds := [.data], laidTests := true, laidLooks := .later }
def FnExactBranchOfCardSaid : Prop := Claim7.holds Tryd.pinned (.plain (OpenSpec.ofChange fnExactBranchOfSpec)) fnExactBranchOfCard

/-- THE TIED CARD OF 'laws.FnExactFoldBranch'. -/
def fnExactFoldBranchCard : Claim7 := { stood := { row := fnExactFoldBranchRow, standIns := [], harness := (true, "3722b5863406ed2f612b2af34b1bc87c3abfde463b44b8a194162b4353b5397d"), looks := false }, kinds := [], alts := [], laidByText := true, laidKinds := [.data], laidTests := true, laidLooks := .later }
def FnExactFoldBranchCardSaid : Prop := Claim7.holds Tryd.pinned (.plain (OpenSpec.ofChange fnExactFoldBranchSpec)) fnExactFoldBranchCard

/-- THE SECOND FORM's CARD OF 'laws.FnBranches'. -/
def fnBranchesUptoCard : Claim7 := { stood := { row := fnBranchesUptoRow, standIns := [], harness := (true, "3722b5863406ed2f612b2af34b1bc87c3abfde463b44b8a194162b4353b5397d"), looks := false }, kinds := [], alts := [], laidByText := true, laidKinds := [.data], laidTests := true, laidLooks := .later }
def FnBranchesUptoCardSaid : Prop := Claim7.holds Tryd.pinned (.plain (OpenSpec.upto fnBranchesSpec)) fnBranchesUptoCard

/-- THE SECOND FORM's CARD OF 'laws.FnOneLeaf'. -/
def fnOneLeafUptoCard : Claim7 := { stood := { row := fnOneLeafUptoRow, standIns := [], harness := (true, "3722b5863406ed2f612b2af34b1bc87c3abfde463b44b8a194162b4353b5397d"), looks := false }, kinds := [], alts := [], laidByText := true, laidKinds := [.data], laidTests := true, laidLooks := .later }
def FnOneLeafUptoCardSaid : Prop := Claim7.holds Tryd.pinned (.plain (OpenSpec.upto fnOneLeafSpec)) fnOneLeafUptoCard

/-- THE SECOND FORM's CARD OF 'laws.FnExactRootOf'. -/
def fnExactRootOfUptoCard : Claim7 := { stood := { row := fnExactRootOfUptoRow, standIns := [], harness := (true, "3722b5863406ed2f612b2af34b1bc87c3abfde463b44b8a194162b4353b5397d"), looks := false }, kinds := [], alts := [], laidByText := true, laidKinds := [.data], laidTests := true, laidLooks := .later }
def FnExactRootOfUptoCardSaid : Prop := Claim7.holds Tryd.pinned (.plain (OpenSpec.upto fnExactRootOfSpec)) fnExactRootOfUptoCard

/-- THE SECOND FORM's CARD OF 'laws.FnExactBranchOf'. -/
def fnExactBranchOfUptoCard : Claim7 := { stood := { row := fnExactBranchOfUptoRow, standIns := [], harness := (true, "3722b5863406ed2f612b2af34b1bc87c3abfde463b44b8a194162b4353b5397d"), looks := false }, kinds := [], alts := [], laidByText := true, laidKinds := [.data], laidTests := true, laidLooks := .later }
def FnExactBranchOfUptoCardSaid : Prop := Claim7.holds Tryd.pinned (.plain (OpenSpec.upto fnExactBranchOfSpec)) fnExactBranchOfUptoCard

/-- THE SECOND FORM's CARD OF 'laws.FnExactFoldBranch'. -/
def fnExactFoldBranchUptoCard : Claim7 := { stood := { row := fnExactFoldBranchUptoRow, standIns := [], harness := (true, "3722b5863406ed2f612b2af34b1bc87c3abfde463b44b8a194162b4353b5397d"), looks := false }, kinds := [], alts := [], laidByText := true, laidKinds := [.data], laidTests := true, laidLooks := .later }
def FnExactFoldBranchUptoCardSaid : Prop := Claim7.holds Tryd.pinned (.plain (OpenSpec.upto fnExactFoldBranchSpec)) fnExactFoldBranchUptoCard
end Rows
end Go.Proofs.YtkiljlmihoaaaaaDoor
