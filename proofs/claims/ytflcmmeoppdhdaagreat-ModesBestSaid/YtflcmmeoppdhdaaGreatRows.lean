/-
  No cell of these rows narrows 'for every input' (looked for: loops, veiled, ifaces, maps, wideKeys, modest, calm, conditions, laid).
  DERIVED. THE GIVEN ROWS OF THIS SEAT. 4 by the template 'for every input the law returns true; each argument reads behind the call as it read before'; 0 by the template 'total and deterministic' (their statements: YtflcmmeoppdhdaaGreatTotals.lean).
  GIVEN WITH THE SEED: the statements are not yours to turn. If you find one false, say at which input.
  Laid BY PROGRAM, IN A SANDBOX (cutbox-rows.mjs): the forced cells as the released guide's own fill.sh prints them over the translation e683fa06454f0734… (all of the seat's roots in one cut). By AI agents, Wed Nov 11 2026. No macro, syntax, notation, axiom, sorry.
-/
import Derived.Test.YtflcmmeoppdhdaaGreatChecked
import GoSem.Claim
import GoSem.ClaimJoined
import GoSem.ClaimMapViews
import Derived.JoinedTies
import Derived.KernelRfl
namespace Go.Proofs.YtflcmmeoppdhdaaGreat
/- THE CELL 'sum', in the pinned program and in every row, IS THE sha256 OF THE DUMP (.gsa) THAT YtflcmmeoppdhdaaGreatProg.lean LOADS. Nothing in Lean hashes anything: it is a label: what it is worth is what the hold of that sum in a sandbox is worth. -/
noncomputable def Tryz.pinned : Pinned := { name := "ytflcmmeoppdhdaagreat", sum := "e683fa06454f07348cf3975250e36a40f47e3129832fc4113d08891bac022c0b", checked := Tryz.checked }
namespace Rows
def none {H : Type} : Left H := { results := [], args := [] }

/-- 'winepresslaw27.ModesCode': WHATEVER THE INPUT: true; the input reads as it did. -/
def modesCodeSpec : ChangeSpec := { name := "modesCode", fn := fun _ => fun
  | [d1, d2, d3] => { results := [.lit (.bool true)], args := [d1, d2, d3] }
  | _ => none }
def modesCodeRow : OpenClaim := { program := "ytflcmmeoppdhdaagreat", sum := "e683fa06454f07348cf3975250e36a40f47e3129832fc4113d08891bac022c0b", func := "winepress/winepresslaw27.ModesCode", spec := "modesCode", unfollowed := true, recurses := true, plainKeys := false, apart := false }
def ModesCodeSaid : Prop := modesCodeRow.holds Tryz.pinned (OpenSpec.ofChange modesCodeSpec)

/-- ITS FALSE NEIGHBOUR: 'it returns false'. Refute it at one input. -/
def modesCodeWrong : ChangeSpec := { name := "modesCode", fn := fun _ => fun
  | [d1, d2, d3] => { results := [.lit (.bool false)], args := [d1, d2, d3] }
  | _ => none }
def ModesCodeWrongFalsely : Prop := modesCodeRow.holds Tryz.pinned (OpenSpec.ofChange modesCodeWrong)

/-- 'winepresslaw27.ModesNames': WHATEVER THE INPUT: true; the input reads as it did. -/
def modesNamesSpec : ChangeSpec := { name := "modesNames", fn := fun _ => fun
  | [d1, d2] => { results := [.lit (.bool true)], args := [d1, d2] }
  | _ => none }
def modesNamesRow : OpenClaim := { program := "ytflcmmeoppdhdaagreat", sum := "e683fa06454f07348cf3975250e36a40f47e3129832fc4113d08891bac022c0b", func := "winepress/winepresslaw27.ModesNames", spec := "modesNames", unfollowed := true, recurses := true, plainKeys := false, apart := false }
def ModesNamesSaid : Prop := modesNamesRow.holds Tryz.pinned (OpenSpec.ofChange modesNamesSpec)

/-- ITS FALSE NEIGHBOUR: 'it returns false'. Refute it at one input. -/
def modesNamesWrong : ChangeSpec := { name := "modesNames", fn := fun _ => fun
  | [d1, d2] => { results := [.lit (.bool false)], args := [d1, d2] }
  | _ => none }
def ModesNamesWrongFalsely : Prop := modesNamesRow.holds Tryz.pinned (OpenSpec.ofChange modesNamesWrong)

/-- 'winepresslaw27.ModesBest': WHATEVER THE INPUT: true; the input reads as it did. -/
def modesBestSpec : ChangeSpec := { name := "modesBest", fn := fun _ => fun
  | [d1, d2] => { results := [.lit (.bool true)], args := [d1, d2] }
  | _ => none }
def modesBestRow : OpenClaim := { program := "ytflcmmeoppdhdaagreat", sum := "e683fa06454f07348cf3975250e36a40f47e3129832fc4113d08891bac022c0b", func := "winepress/winepresslaw27.ModesBest", spec := "modesBest", unfollowed := true, recurses := true, plainKeys := false, apart := false }
def ModesBestSaid : Prop := modesBestRow.holds Tryz.pinned (OpenSpec.ofChange modesBestSpec)

/-- ITS FALSE NEIGHBOUR: 'it returns false'. Refute it at one input. -/
def modesBestWrong : ChangeSpec := { name := "modesBest", fn := fun _ => fun
  | [d1, d2] => { results := [.lit (.bool false)], args := [d1, d2] }
  | _ => none }
def ModesBestWrongFalsely : Prop := modesBestRow.holds Tryz.pinned (OpenSpec.ofChange modesBestWrong)

/-- 'winepresslaw27.ModesBack': WHATEVER THE INPUT: true; the input reads as it did. -/
def modesBackSpec : ChangeSpec := { name := "modesBack", fn := fun _ => fun
  | [d1, d2, d3] => { results := [.lit (.bool true)], args := [d1, d2, d3] }
  | _ => none }
def modesBackRow : OpenClaim := { program := "ytflcmmeoppdhdaagreat", sum := "e683fa06454f07348cf3975250e36a40f47e3129832fc4113d08891bac022c0b", func := "winepress/winepresslaw27.ModesBack", spec := "modesBack", unfollowed := true, recurses := true, plainKeys := false, apart := false }
def ModesBackSaid : Prop := modesBackRow.holds Tryz.pinned (OpenSpec.ofChange modesBackSpec)

/-- ITS FALSE NEIGHBOUR: 'it returns false'. Refute it at one input. -/
def modesBackWrong : ChangeSpec := { name := "modesBack", fn := fun _ => fun
  | [d1, d2, d3] => { results := [.lit (.bool false)], args := [d1, d2, d3] }
  | _ => none }
def ModesBackWrongFalsely : Prop := modesBackRow.holds Tryz.pinned (OpenSpec.ofChange modesBackWrong)

/- THE SECOND FORM. 'bulk': how many values and letters a reading holds, each counted each time it is reached (what is shared counts as often as it is met; a slice's spare places count too). A statement '..UptoSaid' is the law's where the arguments, and the package variables that the reading takes, are together of bulk at most 1048576: NARROWER than '..Said'. Prove '..Said' where nothing that the law and all that it calls make is longer than what came in: it says more and counts as full. Else prove '..UptoSaid'. A law counts once. -/
mutual
def uptoBulk {H : Type} : DataW H → Nat
  | .lit (.string bytes) => bytes.length + 1
  | .lit _ => 1
  | .nil => 1
  | .ptr d => uptoBulk d + 1
  | .slice elems spare => uptoBulkAll elems + uptoBulkAll spare + 1
  | .agg parts => uptoBulkAll parts + 1
  | .iface _ d => uptoBulk d + 1
  | .map entries => uptoBulkEntries entries + 1
  | .held _ => 1
def uptoBulkAll {H : Type} : List (DataW H) → Nat
  | [] => 0
  | d :: r => uptoBulk d + uptoBulkAll r
def uptoBulkEntries {H : Type} : List (Lit × DataW H) → Nat
  | [] => 0
  | x :: r => uptoBulkEntry x + uptoBulkEntries r
def uptoBulkEntry {H : Type} : Lit × DataW H → Nat
  | (.string bytes, d) => bytes.length + uptoBulk d + 1
  | (_, d) => uptoBulk d + 1
 end
def uptoSmall : (H : Type) → List (DataW H) → Bool := fun _ ds => decide (uptoBulkAll ds ≤ 1048576)
def OpenSpec.upto (s : _root_.Go.ChangeSpec) : _root_.Go.OpenSpec := { _root_.Go.OpenSpec.ofChange s with cond := some uptoSmall }

/-- 'winepresslaw27.ModesCode', WHERE WHAT IT READS IS OF BULK AT MOST 1048576: true; the input reads as it did. -/
def modesCodeUptoRow : OpenClaim := { program := "ytflcmmeoppdhdaagreat", sum := "e683fa06454f07348cf3975250e36a40f47e3129832fc4113d08891bac022c0b", func := "winepress/winepresslaw27.ModesCode", spec := "modesCode", unfollowed := true, recurses := true, plainKeys := false, apart := false, narrowed := true }
def ModesCodeUptoSaid : Prop := modesCodeUptoRow.holds Tryz.pinned (OpenSpec.upto modesCodeSpec)

/-- 'winepresslaw27.ModesNames', WHERE WHAT IT READS IS OF BULK AT MOST 1048576: true; the input reads as it did. -/
def modesNamesUptoRow : OpenClaim := { program := "ytflcmmeoppdhdaagreat", sum := "e683fa06454f07348cf3975250e36a40f47e3129832fc4113d08891bac022c0b", func := "winepress/winepresslaw27.ModesNames", spec := "modesNames", unfollowed := true, recurses := true, plainKeys := false, apart := false, narrowed := true }
def ModesNamesUptoSaid : Prop := modesNamesUptoRow.holds Tryz.pinned (OpenSpec.upto modesNamesSpec)

/-- 'winepresslaw27.ModesBest', WHERE WHAT IT READS IS OF BULK AT MOST 1048576: true; the input reads as it did. -/
def modesBestUptoRow : OpenClaim := { program := "ytflcmmeoppdhdaagreat", sum := "e683fa06454f07348cf3975250e36a40f47e3129832fc4113d08891bac022c0b", func := "winepress/winepresslaw27.ModesBest", spec := "modesBest", unfollowed := true, recurses := true, plainKeys := false, apart := false, narrowed := true }
def ModesBestUptoSaid : Prop := modesBestUptoRow.holds Tryz.pinned (OpenSpec.upto modesBestSpec)

/-- 'winepresslaw27.ModesBack', WHERE WHAT IT READS IS OF BULK AT MOST 1048576: true; the input reads as it did. -/
def modesBackUptoRow : OpenClaim := { program := "ytflcmmeoppdhdaagreat", sum := "e683fa06454f07348cf3975250e36a40f47e3129832fc4113d08891bac022c0b", func := "winepress/winepresslaw27.ModesBack", spec := "modesBack", unfollowed := true, recurses := true, plainKeys := false, apart := false, narrowed := true }
def ModesBackUptoSaid : Prop := modesBackUptoRow.holds Tryz.pinned (OpenSpec.upto modesBackSpec)

end Rows
end Go.Proofs.YtflcmmeoppdhdaaGreat
