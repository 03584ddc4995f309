/-
  DERIVED. GIVEN WITH THE SEED: THE CARDS: each row of YtlaoikpbgbckjaaDoorRows.lean that lists a variable, with what it lists TIED to the program's text (the seventh form; the later family's looks); each row that meets fmt, with fmt's text TOLD by the authors' own Lean function (tested against real Go, not proved from fmt's source: count such statements apart). THE CARD IS WHAT COUNTS. Prove the row's statement (the work); the ties are given (YtlaoikpbgbckjaaDoorTie.lean); close each card by the builder's one call (the guide's Derived/Test/ToyasCard.lean, 'card_holds'). Laid BY PROGRAM, IN A SANDBOX (cutbox-door.mjs). By AI agents, Wed Nov 11 2026. No macro, syntax, notation, axiom, sorry.
-/
import Derived.Test.YtlaoikpbgbckjaaDoorRows
import GoSem.ClaimSeven
namespace Go.Proofs.YtlaoikpbgbckjaaDoor
namespace Rows

/-- THE TIED CARD OF 'laws.FnHeads'. -/
def fnHeadsCard : Claim7 := { stood := { row := fnHeadsRow, standIns := [], harness := (true, "7f5bc3ba88e940891ee042c2cbffb2758de35a55719caaf4963c226ed7ba51ca"), looks := false }, kinds := [], alts := [], laidByText := true, laidKinds := [.data], laidTests := true, laidLooks := .later }
def FnHeadsCardSaid : Prop := Claim7.holds Tryd.pinned (.plain (OpenSpec.ofChange fnHeadsSpec)) fnHeadsCard

/-- THE TIED CARD OF 'laws.FnExactHeadRoot'. -/
def fnExactHeadRootCard : Claim7 := { stood := { row := fnExactHeadRootRow, standIns := [], harness := (true, "7f5bc3ba88e940891ee042c2cbffb2758de35a55719caaf4963c226ed7ba51ca"), looks := false }, kinds := [], alts := [], laidByText := true, laidKinds := [.data], laidTests := true, laidLooks := .later }
def FnExactHeadRootCardSaid : Prop := Claim7.holds Tryd.pinned (.plain (OpenSpec.ofChange fnExactHeadRootSpec)) fnExactHeadRootCard

/-- THE TIED CARD OF 'laws.FnExactSigText'. -/
def fnExactSigTextCard : Claim7 := { stood := { row := fnExactSigTextRow, standIns := [], harness := (true, "7f5bc3ba88e940891ee042c2cbffb2758de35a55719caaf4963c226ed7ba51ca"), looks := false }, kinds := [], alts := [], laidByText := true, laidKinds := [.data], laidTests := true, laidLooks := .later }
def FnExactSigTextCardSaid : Prop := Claim7.holds Tryd.pinned (.plain (OpenSpec.ofChange fnExactSigTextSpec)) fnExactSigTextCard

/-- THE SECOND FORM's CARD OF 'laws.FnHeads'. -/
def fnHeadsUptoCard : Claim7 := { stood := { row := fnHeadsUptoRow, standIns := [], harness := (true, "7f5bc3ba88e940891ee042c2cbffb2758de35a55719caaf4963c226ed7ba51ca"), looks := false }, kinds := [], alts := [], laidByText := true, laidKinds := [.data], laidTests := true, laidLooks := .later }
def FnHeadsUptoCardSaid : Prop := Claim7.holds Tryd.pinned (.plain (OpenSpec.upto fnHeadsSpec)) fnHeadsUptoCard

/-- THE SECOND FORM's CARD OF 'laws.FnExactHeadRoot'. -/
def fnExactHeadRootUptoCard : Claim7 := { stood := { row := fnExactHeadRootUptoRow, standIns := [], harness := (true, "7f5bc3ba88e940891ee042c2cbffb2758de35a55719caaf4963c226ed7ba51ca"), looks := false }, kinds := [], alts := [], laidByText := true, laidKinds := [.data], laidTests := true, laidLooks := .later }
def FnExactHeadRootUptoCardSaid : Prop := Claim7.holds Tryd.pinned (.plain (OpenSpec.upto fnExactHeadRootSpec)) fnExactHeadRootUptoCard

/-- THE SECOND FORM's CARD OF 'laws.FnExactSigText'. -/
def fnExactSigTextUptoCard : Claim7 := { stood := { row := fnExactSigTextUptoRow, standIns := [], harness := (true, "7f5bc3ba88e940891ee042c2cbffb2758de35a55719caaf4963c226ed7ba51ca"), looks := false }, kinds := [], alts := [], laidByText := true, laidKinds := [.data], laidTests := true, laidLooks := .later }
def FnExactSigTextUptoCardSaid : Prop := Claim7.holds Tryd.pinned (.plain (OpenSpec.upto fnExactSigTextSpec)) fnExactSigTextUptoCard
end Rows
end Go.Proofs.YtlaoikpbgbckjaaDoor
