/-
  DERIVED. GIVEN WITH THE SEED: THE CARDS: each row of YtkmelamfohfdkabDoorRows.lean that lists a variable, with what it lists TIED to the program's text (the seventh form; the later family's looks); each row that meets fmt, with fmt's text TOLD by the authors' own Lean function (tested against real Go, not proved from fmt's source: count such statements apart). THE CARD IS WHAT COUNTS. Prove the row's statement (the work); the ties are given (YtkmelamfohfdkabDoorTie.lean); close each card by the builder's one call (the guide's Derived/Test/ToyasCard.lean, 'card_holds'). Laid BY PROGRAM, IN A SANDBOX (cutbox-door.mjs). By AI agents, Wed Nov 11 2026. No macro, syntax, notation, axiom, sorry.
-/
import Derived.Test.YtkmelamfohfdkabDoorRows
import GoSem.ClaimSeven
namespace Go.Proofs.YtkmelamfohfdkabDoor
namespace Rows

/-- THE TIED CARD OF 'laws.FnExactSignBits'. -/
def fnExactSignBitsCard : Claim7 := { stood := { row := fnExactSignBitsRow, standIns := [], harness := (true, "1f74f905b433737b02628d1a9dd1a60205d67e511ac8ae1b093dccad708db2c0"), looks := false }, kinds := [], alts := [], laidByText := true, laidKinds := [.data], laidTests := true, laidLooks := .later }
def FnExactSignBitsCardSaid : Prop := Claim7.holds Tryd.pinned (.plain (OpenSpec.ofChange fnExactSignBitsSpec)) fnExactSignBitsCard

/-- THE SECOND FORM's CARD OF 'laws.FnExactSignBits'. -/
def fnExactSignBitsUptoCard : Claim7 := { stood := { row := fnExactSignBitsUptoRow, standIns := [], harness := (true, "1f74f905b433737b02628d1a9dd1a60205d67e511ac8ae1b093dccad708db2c0"), looks := false }, kinds := [], alts := [], laidByText := true, laidKinds := [.data], laidTests := true, laidLooks := .later }
def FnExactSignBitsUptoCardSaid : Prop := Claim7.holds Tryd.pinned (.plain (OpenSpec.upto fnExactSignBitsSpec)) fnExactSignBitsUptoCard
end Rows
end Go.Proofs.YtkmelamfohfdkabDoor
