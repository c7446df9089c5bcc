/-
  DERIVED. GIVEN WITH THE SEED: THE CARDS: each row of YtckihmhjpjcapaaDoorRows.lean that lists a variable, with what it lists TIED to the program's text (the seventh form; the later family's looks); each row that meets fmt, with fmt's text TOLD by the authors' own Lean function (tested against real Go, not proved from fmt's source: count such statements apart). THE CARD IS WHAT COUNTS. Prove the row's statement (the work); the ties are given (YtckihmhjpjcapaaDoorTie.lean); close each card by the builder's one call (the guide's Derived/Test/ToyasCard.lean, 'card_holds'). Laid BY PROGRAM, IN A SANDBOX (cutbox-door.mjs). By AI agents, Wed Nov 11 2026. No macro, syntax, notation, axiom, sorry.
-/
import Derived.Test.YtckihmhjpjcapaaDoorRows
import GoSem.ClaimSeven
namespace Go.Proofs.YtckihmhjpjcapaaDoor
namespace Rows

/-- THE TIED CARD OF 'winepresslaw07.FlipDoes'. -/
def flipDoesCard : Claim7 := { stood := { row := flipDoesRow, standIns := [], harness := (true, "608a1a02b10766410dd2fbe413830110630176eda7b311dbdf03d2da4385ba8e"), looks := false }, kinds := [], alts := [], laidByText := true, laidKinds := [.data], laidTests := true, laidLooks := .later }
def FlipDoesCardSaid : Prop := Claim7.holds Tryd.pinned (.plain (OpenSpec.ofChange flipDoesSpec)) flipDoesCard

/-- THE TIED CARD OF 'winepresslaw07.FlipBack'. -/
def flipBackCard : Claim7 := { stood := { row := flipBackRow, standIns := [], harness := (true, "608a1a02b10766410dd2fbe413830110630176eda7b311dbdf03d2da4385ba8e"), looks := false }, kinds := [], alts := [], laidByText := true, laidKinds := [.data], laidTests := true, laidLooks := .later }
def FlipBackCardSaid : Prop := Claim7.holds Tryd.pinned (.plain (OpenSpec.ofChange flipBackSpec)) flipBackCard

/-- THE SECOND FORM's CARD OF 'winepresslaw07.FlipDoes'. -/
def flipDoesUptoCard : Claim7 := { stood := { row := flipDoesUptoRow, standIns := [], harness := (true, "608a1a02b10766410dd2fbe413830110630176eda7b311dbdf03d2da4385ba8e"), looks := false }, kinds := [], alts := [], laidByText := true, laidKinds := [.data], laidTests := true, laidLooks := .later }
def FlipDoesUptoCardSaid : Prop := Claim7.holds Tryd.pinned (.plain (OpenSpec.upto flipDoesSpec)) flipDoesUptoCard

/-- THE SECOND FORM's CARD OF 'winepresslaw07.FlipBack'. -/
def flipBackUptoCard : Claim7 := { stood := { row := flipBackUptoRow, standIns := [], harness := (true, "608a1a02b10766410dd2fbe413830110630176eda7b311dbdf03d2da4385ba8e"), looks := false }, kinds := [], alts := [], laidByText := true, laidKinds := [.data], laidTests := true, laidLooks := .later }
def FlipBackUptoCardSaid : Prop := Claim7.holds Tryd.pinned (.plain (OpenSpec.upto flipBackSpec)) flipBackUptoCard
end Rows
end Go.Proofs.YtckihmhjpjcapaaDoor
