/-
  DERIVED. GIVEN WITH THE SEED: THE CARDS: each row of YthncegemhaofnaaDoorRows.lean that lists a variable, with what it lists TIED to the program's text (the seventh form; the later family's looks); each row that meets fmt, with fmt's text TOLD by the authors' own Lean function (tested against real Go, not proved from fmt's source: count such statements apart). THE CARD IS WHAT COUNTS. Prove the row's statement (the work); the ties are given (YthncegemhaofnaaDoorTie.lean); close each card by the builder's one call (the guide's Derived/Test/ToyasCard.lean, 'card_holds'). Laid BY PROGRAM, IN A SANDBOX (cutbox-door.mjs). By AI agents, Wed Nov 11 2026. No macro, syntax, notation, axiom, sorry.
-/
import Derived.Test.YthncegemhaofnaaDoorRows
import GoSem.ClaimSeven
namespace Go.Proofs.YthncegemhaofnaaDoor
namespace Rows

/-- THE TIED CARD OF 'laws.FnDigests'. -/
def fnDigestsCard : Claim7 := { stood := { row := fnDigestsRow, standIns := [], harness := (true, "5d9a8bc5a91a2395f50f9503d9542a9fab11fd6c00d2ef07f80407f154720866"), looks := false }, kinds := [], alts := [], laidByText := true, laidKinds := [.data], laidTests := true, laidLooks := .later }
def FnDigestsCardSaid : Prop := Claim7.holds Tryd.pinned (.plain (OpenSpec.ofChange fnDigestsSpec)) fnDigestsCard

/-- THE TIED CARD OF 'laws.FnRounds'. -/
def fnRoundsCard : Claim7 := { stood := { row := fnRoundsRow, standIns := [], harness := (true, "5d9a8bc5a91a2395f50f9503d9542a9fab11fd6c00d2ef07f80407f154720866"), looks := false }, kinds := [], alts := [], laidByText := true, laidKinds := [.data], laidTests := true, laidLooks := .later }
def FnRoundsCardSaid : Prop := Claim7.holds Tryd.pinned (.plain (OpenSpec.ofChange fnRoundsSpec)) fnRoundsCard

/-- THE TIED CARD OF 'laws.FnExactKeccakRound'. -/
def fnExactKeccakRoundCard : Claim7 := { stood := { row := fnExactKeccakRoundRow, standIns := [], harness := (true, "5d9a8bc5a91a2395f50f9503d9542a9fab11fd6c00d2ef07f80407f154720866"), looks := false }, kinds := [], alts := [], laidByText := true, laidKinds := [.data], laidTests := true, laidLooks := .later }
def FnExactKeccakRoundCardSaid : Prop := Claim7.holds Tryd.pinned (.plain (OpenSpec.ofChange fnExactKeccakRoundSpec)) fnExactKeccakRoundCard

/-- THE TIED CARD OF 'laws.FnExactKeccakF'. -/
def fnExactKeccakFCard : Claim7 := { stood := { row := fnExactKeccakFRow, standIns := [], harness := (true, "5d9a8bc5a91a2395f50f9503d9542a9fab11fd6c00d2ef07f80407f154720866"), looks := false }, kinds := [], alts := [], laidByText := true, laidKinds := [.data], laidTests := true, laidLooks := .later }
def FnExactKeccakFCardSaid : Prop := Claim7.holds Tryd.pinned (.plain (OpenSpec.ofChange fnExactKeccakFSpec)) fnExactKeccakFCard

/-- THE SECOND FORM's CARD OF 'laws.FnDigests'. -/
def fnDigestsUptoCard : Claim7 := { stood := { row := fnDigestsUptoRow, standIns := [], harness := (true, "5d9a8bc5a91a2395f50f9503d9542a9fab11fd6c00d2ef07f80407f154720866"), looks := false }, kinds := [], alts := [], laidByText := true, laidKinds := [.data], laidTests := true, laidLooks := .later }
def FnDigestsUptoCardSaid : Prop := Claim7.holds Tryd.pinned (.plain (OpenSpec.upto fnDigestsSpec)) fnDigestsUptoCard

/-- THE SECOND FORM's CARD OF 'laws.FnRounds'. -/
def fnRoundsUptoCard : Claim7 := { stood := { row := fnRoundsUptoRow, standIns := [], harness := (true, "5d9a8bc5a91a2395f50f9503d9542a9fab11fd6c00d2ef07f80407f154720866"), looks := false }, kinds := [], alts := [], laidByText := true, laidKinds := [.data], laidTests := true, laidLooks := .later }
def FnRoundsUptoCardSaid : Prop := Claim7.holds Tryd.pinned (.plain (OpenSpec.upto fnRoundsSpec)) fnRoundsUptoCard

/-- THE SECOND FORM's CARD OF 'laws.FnExactKeccakRound'. -/
def fnExactKeccakRoundUptoCard : Claim7 := { stood := { row := fnExactKeccakRoundUptoRow, standIns := [], harness := (true, "5d9a8bc5a91a2395f50f9503d9542a9fab11fd6c00d2ef07f80407f154720866"), looks := false }, kinds := [], alts := [], laidByText := true, laidKinds := [.data], laidTests := true, laidLooks := .later }
def FnExactKeccakRoundUptoCardSaid : Prop := Claim7.holds Tryd.pinned (.plain (OpenSpec.upto fnExactKeccakRoundSpec)) fnExactKeccakRoundUptoCard

/-- THE SECOND FORM's CARD OF 'laws.FnExactKeccakF'. -/
def fnExactKeccakFUptoCard : Claim7 := { stood := { row := fnExactKeccakFUptoRow, standIns := [], harness := (true, "5d9a8bc5a91a2395f50f9503d9542a9fab11fd6c00d2ef07f80407f154720866"), looks := false }, kinds := [], alts := [], laidByText := true, laidKinds := [.data], laidTests := true, laidLooks := .later }
def FnExactKeccakFUptoCardSaid : Prop := Claim7.holds Tryd.pinned (.plain (OpenSpec.upto fnExactKeccakFSpec)) fnExactKeccakFUptoCard
end Rows
end Go.Proofs.YthncegemhaofnaaDoor
