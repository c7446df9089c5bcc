/-
  DERIVED. GIVEN WITH THE SEED: THE CARDS: each row of YtflcmmeoppdhdaaGreatDoorRows.lean that lists a variable, with what it lists TIED to the program's text (the seventh form; the later family's looks); each row that meets fmt, with fmt's text TOLD by the authors' own Lean function (tested against real Go, not proved from fmt's source: count such statements apart). THE CARD IS WHAT COUNTS. Prove the row's statement (the work); the ties are given (YtflcmmeoppdhdaaGreatDoorTie.lean); close each card by the builder's one call (the guide's Derived/Test/ToyasCard.lean, 'card_holds'). Laid BY PROGRAM, IN A SANDBOX (cutbox-door.mjs). By AI agents, Wed Nov 11 2026. No macro, syntax, notation, axiom, sorry.
-/
import Derived.Test.YtflcmmeoppdhdaaGreatDoorRows
import GoSem.ClaimSeven
namespace Go.Proofs.YtflcmmeoppdhdaaGreatDoor
namespace Rows

/-- THE TIED CARD OF 'winepresstop.TopPressed'. -/
def topPressedCard : Claim7 := { stood := { row := topPressedRow, standIns := [], harness := (true, "213dacd4c40a640e4f0890b2ecc131feb1f9e679623286a28316f76a075b234b"), looks := true }, kinds := [], alts := [], laidByText := true, laidKinds := [.data], laidTests := true, laidLooks := .later }
def TopPressedCardSaid : Prop := Claim7.holds Tryz.pinned (.plain (OpenSpec.ofChange topPressedSpec)) topPressedCard

/-- THE SECOND FORM's CARD OF 'winepresstop.TopPressed'. -/
def topPressedUptoCard : Claim7 := { stood := { row := topPressedUptoRow, standIns := [], harness := (true, "213dacd4c40a640e4f0890b2ecc131feb1f9e679623286a28316f76a075b234b"), looks := true }, kinds := [], alts := [], laidByText := true, laidKinds := [.data], laidTests := true, laidLooks := .later }
def TopPressedUptoCardSaid : Prop := Claim7.holds Tryz.pinned (.plain (OpenSpec.upto topPressedSpec)) topPressedUptoCard
end Rows
end Go.Proofs.YtflcmmeoppdhdaaGreatDoor
