/-
  DERIVED. GIVEN WITH THE SEED: THE CARDS: each row of YtnfkekaeppgaoaaDoorRows.lean that lists a variable, with what it lists TIED to the program's text (the seventh form; the later family's looks); each row that meets fmt, with fmt's text TOLD by the authors' own Lean function (tested against real Go, not proved from fmt's source: count such statements apart). THE CARD IS WHAT COUNTS. Prove the row's statement (the work); the ties are given (YtnfkekaeppgaoaaDoorTie.lean); close each card by the builder's one call (the guide's Derived/Test/ToyasCard.lean, 'card_holds'). Laid BY PROGRAM, IN A SANDBOX (cutbox-door.mjs). By AI agents, Wed Nov 11 2026. No macro, syntax, notation, axiom, sorry.
-/
import Derived.Test.YtnfkekaeppgaoaaDoorRows
import GoSem.ClaimSeven
namespace Go.Proofs.YtnfkekaeppgaoaaDoor
namespace Rows

/-- THE TIED CARD OF 'winepresslaw28.OptsCheck'. -/
def optsCheckCard : Claim7 := { stood := { row := optsCheckRow, standIns := [], harness := (true, "dc18886dd6910f49b86de76886af7f3ea6bae5180762c85e18626c2b53739eba"), looks := false }, kinds := [], alts := [], laidByText := true, laidKinds := [.data, .data, .data], laidTests := true, laidLooks := .later }
def OptsCheckCardSaid : Prop := Claim7.holds Tryd.pinned (.plain (OpenSpec.ofChange optsCheckSpec)) optsCheckCard

/-- THE TIED CARD OF 'winepresslaw28.OptsBack'. -/
def optsBackCard : Claim7 := { stood := { row := optsBackRow, standIns := [], harness := (true, "dc18886dd6910f49b86de76886af7f3ea6bae5180762c85e18626c2b53739eba"), looks := false }, kinds := [], alts := [], laidByText := true, laidKinds := [.data, .data, .data], laidTests := true, laidLooks := .later }
def OptsBackCardSaid : Prop := Claim7.holds Tryd.pinned (.plain (OpenSpec.ofChange optsBackSpec)) optsBackCard

/-- THE SECOND FORM's CARD OF 'winepresslaw28.OptsCheck'. -/
def optsCheckUptoCard : Claim7 := { stood := { row := optsCheckUptoRow, standIns := [], harness := (true, "dc18886dd6910f49b86de76886af7f3ea6bae5180762c85e18626c2b53739eba"), looks := false }, kinds := [], alts := [], laidByText := true, laidKinds := [.data, .data, .data], laidTests := true, laidLooks := .later }
def OptsCheckUptoCardSaid : Prop := Claim7.holds Tryd.pinned (.plain (OpenSpec.upto optsCheckSpec)) optsCheckUptoCard

/-- THE SECOND FORM's CARD OF 'winepresslaw28.OptsBack'. -/
def optsBackUptoCard : Claim7 := { stood := { row := optsBackUptoRow, standIns := [], harness := (true, "dc18886dd6910f49b86de76886af7f3ea6bae5180762c85e18626c2b53739eba"), looks := false }, kinds := [], alts := [], laidByText := true, laidKinds := [.data, .data, .data], laidTests := true, laidLooks := .later }
def OptsBackUptoCardSaid : Prop := Claim7.holds Tryd.pinned (.plain (OpenSpec.upto optsBackSpec)) optsBackUptoCard
end Rows
end Go.Proofs.YtnfkekaeppgaoaaDoor
