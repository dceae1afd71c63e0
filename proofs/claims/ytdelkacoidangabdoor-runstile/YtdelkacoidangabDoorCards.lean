/-
  DERIVED. GIVEN WITH THE SEED: THE CARDS: each row of YtdelkacoidangabDoorRows.lean that lists a variable, with what it lists TIED to the program's text (the seventh form; the later family's looks); each row that meets fmt, with fmt's text TOLD by the authors' own Lean function (tested against real Go, not proved from fmt's source: count such statements apart). THE CARD IS WHAT COUNTS. Prove the row's statement (the work); the ties are given (YtdelkacoidangabDoorTie.lean); close each card by the builder's one call (the guide's Derived/Test/ToyasCard.lean, 'card_holds'). Laid BY PROGRAM, IN A SANDBOX (cutbox-door.mjs). By AI agents, Wed Nov 11 2026. No macro, syntax, notation, axiom, sorry.
-/
import Derived.Test.YtdelkacoidangabDoorRows
import GoSem.ClaimSeven
namespace Go.Proofs.YtdelkacoidangabDoor
namespace Rows

/-- THE TIED CARD OF 'mosaiclaw25.RunsTile'. -/
def runsTileCard : Claim7 := { stood := { row := runsTileRow, standIns := [], harness := (true, "0a2d9b0b8da3764f3603077cd1d5ed83cc7cec94ea0a0fc1ce059b7874b053a8"), looks := false }, kinds := [], alts := [], laidByText := true, laidKinds := [.data, .data, .data], laidTests := true, laidLooks := .later }
def RunsTileCardSaid : Prop := Claim7.holds Tryd.pinned (.plain (OpenSpec.ofChange runsTileSpec)) runsTileCard

/-- THE SECOND FORM's CARD OF 'mosaiclaw25.RunsTile'. -/
def runsTileUptoCard : Claim7 := { stood := { row := runsTileUptoRow, standIns := [], harness := (true, "0a2d9b0b8da3764f3603077cd1d5ed83cc7cec94ea0a0fc1ce059b7874b053a8"), looks := false }, kinds := [], alts := [], laidByText := true, laidKinds := [.data, .data, .data], laidTests := true, laidLooks := .later }
def RunsTileUptoCardSaid : Prop := Claim7.holds Tryd.pinned (.plain (OpenSpec.upto runsTileSpec)) runsTileUptoCard
end Rows
end Go.Proofs.YtdelkacoidangabDoor
