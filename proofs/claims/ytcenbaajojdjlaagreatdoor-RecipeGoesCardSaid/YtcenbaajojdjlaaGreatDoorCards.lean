/-
  DERIVED. GIVEN WITH THE SEED: THE CARDS: each row of YtcenbaajojdjlaaGreatDoorRows.lean that lists a variable, with what it lists TIED to the program's text (the seventh form; the later family's looks); each row that meets fmt, with fmt's text TOLD by the authors' own Lean function (tested against real Go, not proved from fmt's source: count such statements apart). THE CARD IS WHAT COUNTS. Prove the row's statement (the work); the ties are given (YtcenbaajojdjlaaGreatDoorTie.lean); close each card by the builder's one call (the guide's Derived/Test/ToyasCard.lean, 'card_holds'). Laid BY PROGRAM, IN A SANDBOX (cutbox-door.mjs). By AI agents, Wed Nov 11 2026. No macro, syntax, notation, axiom, sorry.
-/
import Derived.Test.YtcenbaajojdjlaaGreatDoorRows
import GoSem.ClaimSeven
namespace Go.Proofs.YtcenbaajojdjlaaGreatDoor
namespace Rows

/-- THE TIED CARD OF 'winepresslaw11.RecipeGoes'. -/
def recipeGoesCard : Claim7 := { stood := { row := recipeGoesRow, standIns := [], harness := (true, "b92eb3c059fcb4e3d9f128e63980dde842d8e456e2704e13d4e29ba13a9e7c74"), looks := false }, kinds := [], alts := [], laidByText := true, laidKinds := [.data], laidTests := true, laidLooks := .later }
def RecipeGoesCardSaid : Prop := Claim7.holds Tryz.pinned (.plain (OpenSpec.ofChange recipeGoesSpec)) recipeGoesCard

/-- THE TIED CARD OF 'winepresslaw11.RecipeBacks'. -/
def recipeBacksCard : Claim7 := { stood := { row := recipeBacksRow, standIns := [], harness := (true, "b92eb3c059fcb4e3d9f128e63980dde842d8e456e2704e13d4e29ba13a9e7c74"), looks := false }, kinds := [], alts := [], laidByText := true, laidKinds := [.data], laidTests := true, laidLooks := .later }
def RecipeBacksCardSaid : Prop := Claim7.holds Tryz.pinned (.plain (OpenSpec.ofChange recipeBacksSpec)) recipeBacksCard

/-- THE SECOND FORM's CARD OF 'winepresslaw11.RecipeGoes'. -/
def recipeGoesUptoCard : Claim7 := { stood := { row := recipeGoesUptoRow, standIns := [], harness := (true, "b92eb3c059fcb4e3d9f128e63980dde842d8e456e2704e13d4e29ba13a9e7c74"), looks := false }, kinds := [], alts := [], laidByText := true, laidKinds := [.data], laidTests := true, laidLooks := .later }
def RecipeGoesUptoCardSaid : Prop := Claim7.holds Tryz.pinned (.plain (OpenSpec.upto recipeGoesSpec)) recipeGoesUptoCard

/-- THE SECOND FORM's CARD OF 'winepresslaw11.RecipeBacks'. -/
def recipeBacksUptoCard : Claim7 := { stood := { row := recipeBacksUptoRow, standIns := [], harness := (true, "b92eb3c059fcb4e3d9f128e63980dde842d8e456e2704e13d4e29ba13a9e7c74"), looks := false }, kinds := [], alts := [], laidByText := true, laidKinds := [.data], laidTests := true, laidLooks := .later }
def RecipeBacksUptoCardSaid : Prop := Claim7.holds Tryz.pinned (.plain (OpenSpec.upto recipeBacksSpec)) recipeBacksUptoCard
end Rows
end Go.Proofs.YtcenbaajojdjlaaGreatDoor
