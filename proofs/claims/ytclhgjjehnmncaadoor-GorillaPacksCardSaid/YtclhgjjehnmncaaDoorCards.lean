/-
  DERIVED. GIVEN WITH THE SEED: THE CARDS: each row of YtclhgjjehnmncaaDoorRows.lean that lists a variable, with what it lists TIED to the program's text (the seventh form; the later family's looks); each row that meets fmt, with fmt's text TOLD by the authors' own Lean function (tested against real Go, not proved from fmt's source: count such statements apart). THE CARD IS WHAT COUNTS. Prove the row's statement (the work); the ties are given (YtclhgjjehnmncaaDoorTie.lean); close each card by the builder's one call (the guide's Derived/Test/ToyasCard.lean, 'card_holds'). Laid BY PROGRAM, IN A SANDBOX (cutbox-door.mjs). By AI agents, Wed Nov 11 2026. No macro, syntax, notation, axiom, sorry.
-/
import Derived.Test.YtclhgjjehnmncaaDoorRows
import GoSem.ClaimSeven
namespace Go.Proofs.YtclhgjjehnmncaaDoor
namespace Rows

/-- THE TIED CARD OF 'winepresslaw09.GorillaPacks'. -/
def gorillaPacksCard : Claim7 := { stood := { row := gorillaPacksRow, standIns := [], harness := (true, "09944cfec80e17e0491b76e9cd87d4412e7ac0aa216c5938ee1400f17e5d8580"), looks := false }, kinds := [], alts := [], laidByText := true, laidKinds := [.data], laidTests := true, laidLooks := .later }
def GorillaPacksCardSaid : Prop := Claim7.holds Tryd.pinned (.plain (OpenSpec.ofChange gorillaPacksSpec)) gorillaPacksCard

/-- THE TIED CARD OF 'winepresslaw09.GorillaBack'. -/
def gorillaBackCard : Claim7 := { stood := { row := gorillaBackRow, standIns := [], harness := (true, "09944cfec80e17e0491b76e9cd87d4412e7ac0aa216c5938ee1400f17e5d8580"), looks := false }, kinds := [], alts := [], laidByText := true, laidKinds := [.data], laidTests := true, laidLooks := .later }
def GorillaBackCardSaid : Prop := Claim7.holds Tryd.pinned (.plain (OpenSpec.ofChange gorillaBackSpec)) gorillaBackCard

/-- THE TIED CARD OF 'winepresslaw09.GorillaStill'. -/
def gorillaStillCard : Claim7 := { stood := { row := gorillaStillRow, standIns := [], harness := (true, "09944cfec80e17e0491b76e9cd87d4412e7ac0aa216c5938ee1400f17e5d8580"), looks := false }, kinds := [], alts := [], laidByText := true, laidKinds := [.data], laidTests := true, laidLooks := .later }
def GorillaStillCardSaid : Prop := Claim7.holds Tryd.pinned (.plain (OpenSpec.ofChange gorillaStillSpec)) gorillaStillCard

/-- THE SECOND FORM's CARD OF 'winepresslaw09.GorillaPacks'. -/
def gorillaPacksUptoCard : Claim7 := { stood := { row := gorillaPacksUptoRow, standIns := [], harness := (true, "09944cfec80e17e0491b76e9cd87d4412e7ac0aa216c5938ee1400f17e5d8580"), looks := false }, kinds := [], alts := [], laidByText := true, laidKinds := [.data], laidTests := true, laidLooks := .later }
def GorillaPacksUptoCardSaid : Prop := Claim7.holds Tryd.pinned (.plain (OpenSpec.upto gorillaPacksSpec)) gorillaPacksUptoCard

/-- THE SECOND FORM's CARD OF 'winepresslaw09.GorillaBack'. -/
def gorillaBackUptoCard : Claim7 := { stood := { row := gorillaBackUptoRow, standIns := [], harness := (true, "09944cfec80e17e0491b76e9cd87d4412e7ac0aa216c5938ee1400f17e5d8580"), looks := false }, kinds := [], alts := [], laidByText := true, laidKinds := [.data], laidTests := true, laidLooks := .later }
def GorillaBackUptoCardSaid : Prop := Claim7.holds Tryd.pinned (.plain (OpenSpec.upto gorillaBackSpec)) gorillaBackUptoCard

/-- THE SECOND FORM's CARD OF 'winepresslaw09.GorillaStill'. -/
def gorillaStillUptoCard : Claim7 := { stood := { row := gorillaStillUptoRow, standIns := [], harness := (true, "09944cfec80e17e0491b76e9cd87d4412e7ac0aa216c5938ee1400f17e5d8580"), looks := false }, kinds := [], alts := [], laidByText := true, laidKinds := [.data], laidTests := true, laidLooks := .later }
def GorillaStillUptoCardSaid : Prop := Claim7.holds Tryd.pinned (.plain (OpenSpec.upto gorillaStillSpec)) gorillaStillUptoCard
end Rows
end Go.Proofs.YtclhgjjehnmncaaDoor
