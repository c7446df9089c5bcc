/-
  No cell of these rows narrows 'for every input' (looked for: loops, veiled, ifaces, maps, wideKeys, modest, calm, conditions, laid).
  DERIVED. THE GIVEN ROWS OF THIS SEAT. 4 by the template 'for every input the law returns true; each argument reads behind the call as it read before'; 0 by the template 'total and deterministic' (their statements: YtclhgjjehnmncaaTotals.lean).
  GIVEN WITH THE SEED: the statements are not yours to turn. If you find one false, say at which input.
  Laid BY PROGRAM, IN A SANDBOX (cutbox-rows.mjs): the forced cells as the released guide's own fill.sh prints them over the translation 94ebbd7a61d59b3e… (all of the seat's roots in one cut). By AI agents, Wed Nov 11 2026. No macro, syntax, notation, axiom, sorry.
-/
import Derived.Test.YtclhgjjehnmncaaChecked
import GoSem.Claim
import GoSem.ClaimJoined
import GoSem.ClaimMapViews
import Derived.JoinedTies
import Derived.KernelRfl
namespace Go.Proofs.Ytclhgjjehnmncaa
/- THE CELL 'sum', in the pinned program and in every row, IS THE sha256 OF THE DUMP (.gsa) THAT YtclhgjjehnmncaaProg.lean LOADS. Nothing in Lean hashes anything: it is a label: what it is worth is what the hold of that sum in a sandbox is worth. -/
noncomputable def Try.pinned : Pinned := { name := "ytclhgjjehnmncaa", sum := "94ebbd7a61d59b3ebe524f1d6f1de78c6ba9cf10da8346ce73da0edcd8ff97de", checked := Try.checked }
namespace Rows
def none {H : Type} : Left H := { results := [], args := [] }

/-- 'winepresslaw10.RunsPacks': WHATEVER THE INPUT: true; the input reads as it did. -/
def runsPacksSpec : ChangeSpec := { name := "runsPacks", fn := fun _ => fun
  | [d1, d2] => { results := [.lit (.bool true)], args := [d1, d2] }
  | _ => none }
def runsPacksRow : OpenClaim := { program := "ytclhgjjehnmncaa", sum := "94ebbd7a61d59b3ebe524f1d6f1de78c6ba9cf10da8346ce73da0edcd8ff97de", func := "winepress/winepresslaw10.RunsPacks", spec := "runsPacks", apart := false }
def RunsPacksSaid : Prop := runsPacksRow.holds Try.pinned (OpenSpec.ofChange runsPacksSpec)

/-- ITS FALSE NEIGHBOUR: 'it returns false'. Refute it at one input. -/
def runsPacksWrong : ChangeSpec := { name := "runsPacks", fn := fun _ => fun
  | [d1, d2] => { results := [.lit (.bool false)], args := [d1, d2] }
  | _ => none }
def RunsPacksWrongFalsely : Prop := runsPacksRow.holds Try.pinned (OpenSpec.ofChange runsPacksWrong)

/-- 'winepresslaw10.RunsUnpacks': WHATEVER THE INPUT: true; the input reads as it did. -/
def runsUnpacksSpec : ChangeSpec := { name := "runsUnpacks", fn := fun _ => fun
  | [d1, d2] => { results := [.lit (.bool true)], args := [d1, d2] }
  | _ => none }
def runsUnpacksRow : OpenClaim := { program := "ytclhgjjehnmncaa", sum := "94ebbd7a61d59b3ebe524f1d6f1de78c6ba9cf10da8346ce73da0edcd8ff97de", func := "winepress/winepresslaw10.RunsUnpacks", spec := "runsUnpacks", apart := false }
def RunsUnpacksSaid : Prop := runsUnpacksRow.holds Try.pinned (OpenSpec.ofChange runsUnpacksSpec)

/-- ITS FALSE NEIGHBOUR: 'it returns false'. Refute it at one input. -/
def runsUnpacksWrong : ChangeSpec := { name := "runsUnpacks", fn := fun _ => fun
  | [d1, d2] => { results := [.lit (.bool false)], args := [d1, d2] }
  | _ => none }
def RunsUnpacksWrongFalsely : Prop := runsUnpacksRow.holds Try.pinned (OpenSpec.ofChange runsUnpacksWrong)

/-- 'winepresslaw10.RunsBack': WHATEVER THE INPUT: true; the input reads as it did. -/
def runsBackSpec : ChangeSpec := { name := "runsBack", fn := fun _ => fun
  | [d1, d2] => { results := [.lit (.bool true)], args := [d1, d2] }
  | _ => none }
def runsBackRow : OpenClaim := { program := "ytclhgjjehnmncaa", sum := "94ebbd7a61d59b3ebe524f1d6f1de78c6ba9cf10da8346ce73da0edcd8ff97de", func := "winepress/winepresslaw10.RunsBack", spec := "runsBack", apart := false }
def RunsBackSaid : Prop := runsBackRow.holds Try.pinned (OpenSpec.ofChange runsBackSpec)

/-- ITS FALSE NEIGHBOUR: 'it returns false'. Refute it at one input. -/
def runsBackWrong : ChangeSpec := { name := "runsBack", fn := fun _ => fun
  | [d1, d2] => { results := [.lit (.bool false)], args := [d1, d2] }
  | _ => none }
def RunsBackWrongFalsely : Prop := runsBackRow.holds Try.pinned (OpenSpec.ofChange runsBackWrong)

/-- 'winepresslaw10.RunsStill': WHATEVER THE INPUT: true; the input reads as it did. -/
def runsStillSpec : ChangeSpec := { name := "runsStill", fn := fun _ => fun
  | [d1, d2] => { results := [.lit (.bool true)], args := [d1, d2] }
  | _ => none }
def runsStillRow : OpenClaim := { program := "ytclhgjjehnmncaa", sum := "94ebbd7a61d59b3ebe524f1d6f1de78c6ba9cf10da8346ce73da0edcd8ff97de", func := "winepress/winepresslaw10.RunsStill", spec := "runsStill", apart := false }
def RunsStillSaid : Prop := runsStillRow.holds Try.pinned (OpenSpec.ofChange runsStillSpec)

/-- ITS FALSE NEIGHBOUR: 'it returns false'. Refute it at one input. -/
def runsStillWrong : ChangeSpec := { name := "runsStill", fn := fun _ => fun
  | [d1, d2] => { results := [.lit (.bool false)], args := [d1, d2] }
  | _ => none }
def RunsStillWrongFalsely : Prop := runsStillRow.holds Try.pinned (OpenSpec.ofChange runsStillWrong)

/- THE SECOND FORM. 'bulk': how many values and letters a reading holds, each counted each time it is reached (what is shared counts as often as it is met; a slice's spare places count too). A statement '..UptoSaid' is the law's where the arguments, and the package variables that the reading takes, are together of bulk at most 1048576: NARROWER than '..Said'. Prove '..Said' where nothing that the law and all that it calls make is longer than what came in: it says more and counts as full. Else prove '..UptoSaid'. A law counts once. -/
mutual
def uptoBulk {H : Type} : DataW H → Nat
  | .lit (.string bytes) => bytes.length + 1
  | .lit _ => 1
  | .nil => 1
  | .ptr d => uptoBulk d + 1
  | .slice elems spare => uptoBulkAll elems + uptoBulkAll spare + 1
  | .agg parts => uptoBulkAll parts + 1
  | .iface _ d => uptoBulk d + 1
  | .map entries => uptoBulkEntries entries + 1
  | .held _ => 1
def uptoBulkAll {H : Type} : List (DataW H) → Nat
  | [] => 0
  | d :: r => uptoBulk d + uptoBulkAll r
def uptoBulkEntries {H : Type} : List (Lit × DataW H) → Nat
  | [] => 0
  | x :: r => uptoBulkEntry x + uptoBulkEntries r
def uptoBulkEntry {H : Type} : Lit × DataW H → Nat
  | (.string bytes, d) => bytes.length + uptoBulk d + 1
  | (_, d) => uptoBulk d + 1
 end
def uptoSmall : (H : Type) → List (DataW H) → Bool := fun _ ds => decide (uptoBulkAll ds ≤ 1048576)
def OpenSpec.upto (s : _root_.Go.ChangeSpec) : _root_.Go.OpenSpec := { _root_.Go.OpenSpec.ofChange s with cond := some uptoSmall }

/-- 'winepresslaw10.RunsPacks', WHERE WHAT IT READS IS OF BULK AT MOST 1048576: true; the input reads as it did. -/
def runsPacksUptoRow : OpenClaim := { program := "ytclhgjjehnmncaa", sum := "94ebbd7a61d59b3ebe524f1d6f1de78c6ba9cf10da8346ce73da0edcd8ff97de", func := "winepress/winepresslaw10.RunsPacks", spec := "runsPacks", apart := false, narrowed := true }
def RunsPacksUptoSaid : Prop := runsPacksUptoRow.holds Try.pinned (OpenSpec.upto runsPacksSpec)

/-- 'winepresslaw10.RunsUnpacks', WHERE WHAT IT READS IS OF BULK AT MOST 1048576: true; the input reads as it did. -/
def runsUnpacksUptoRow : OpenClaim := { program := "ytclhgjjehnmncaa", sum := "94ebbd7a61d59b3ebe524f1d6f1de78c6ba9cf10da8346ce73da0edcd8ff97de", func := "winepress/winepresslaw10.RunsUnpacks", spec := "runsUnpacks", apart := false, narrowed := true }
def RunsUnpacksUptoSaid : Prop := runsUnpacksUptoRow.holds Try.pinned (OpenSpec.upto runsUnpacksSpec)

/-- 'winepresslaw10.RunsBack', WHERE WHAT IT READS IS OF BULK AT MOST 1048576: true; the input reads as it did. -/
def runsBackUptoRow : OpenClaim := { program := "ytclhgjjehnmncaa", sum := "94ebbd7a61d59b3ebe524f1d6f1de78c6ba9cf10da8346ce73da0edcd8ff97de", func := "winepress/winepresslaw10.RunsBack", spec := "runsBack", apart := false, narrowed := true }
def RunsBackUptoSaid : Prop := runsBackUptoRow.holds Try.pinned (OpenSpec.upto runsBackSpec)

/-- 'winepresslaw10.RunsStill', WHERE WHAT IT READS IS OF BULK AT MOST 1048576: true; the input reads as it did. -/
def runsStillUptoRow : OpenClaim := { program := "ytclhgjjehnmncaa", sum := "94ebbd7a61d59b3ebe524f1d6f1de78c6ba9cf10da8346ce73da0edcd8ff97de", func := "winepress/winepresslaw10.RunsStill", spec := "runsStill", apart := false, narrowed := true }
def RunsStillUptoSaid : Prop := runsStillUptoRow.holds Try.pinned (OpenSpec.upto runsStillSpec)

end Rows
end Go.Proofs.Ytclhgjjehnmncaa
