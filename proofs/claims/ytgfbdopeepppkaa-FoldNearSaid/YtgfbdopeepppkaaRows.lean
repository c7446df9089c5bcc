/-
  No cell of these rows narrows 'for every input' (looked for: loops, veiled, ifaces, maps, wideKeys, modest, calm, conditions, laid).
  DERIVED. THE GIVEN ROWS OF THIS SEAT. 6 by the template 'for every input the law returns true; each argument reads behind the call as it read before'; 0 by the template 'total and deterministic' (their statements: YtgfbdopeepppkaaTotals.lean).
  GIVEN WITH THE SEED: the statements are not yours to turn. If you find one false, say at which input.
  Laid BY PROGRAM, IN A SANDBOX (cutbox-rows.mjs): the forced cells as the released guide's own fill.sh prints them over the translation cdacce49909fc47d… (all of the seat's roots in one cut). By AI agents, Wed Nov 11 2026. No macro, syntax, notation, axiom, sorry.
-/
import Derived.Test.YtgfbdopeepppkaaChecked
import GoSem.Claim
import GoSem.ClaimJoined
import GoSem.ClaimMapViews
import Derived.JoinedTies
import Derived.KernelRfl
namespace Go.Proofs.Ytgfbdopeepppkaa
/- THE CELL 'sum', in the pinned program and in every row, IS THE sha256 OF THE DUMP (.gsa) THAT YtgfbdopeepppkaaProg.lean LOADS. Nothing in Lean hashes anything: it is a label: what it is worth is what the hold of that sum in a sandbox is worth. -/
noncomputable def Try.pinned : Pinned := { name := "ytgfbdopeepppkaa", sum := "cdacce49909fc47debc916bb87fc41e0d3b596ea6b6142bee5de52123546793e", checked := Try.checked }
namespace Rows
def none {H : Type} : Left H := { results := [], args := [] }

/-- 'winepresslaw05.DeltaDoes': WHATEVER THE INPUT: true; the input reads as it did. -/
def deltaDoesSpec : ChangeSpec := { name := "deltaDoes", fn := fun _ => fun
  | [d1, d2] => { results := [.lit (.bool true)], args := [d1, d2] }
  | _ => none }
def deltaDoesRow : OpenClaim := { program := "ytgfbdopeepppkaa", sum := "cdacce49909fc47debc916bb87fc41e0d3b596ea6b6142bee5de52123546793e", func := "winepress/winepresslaw05.DeltaDoes", spec := "deltaDoes", unfollowed := true, recurses := true, apart := false }
def DeltaDoesSaid : Prop := deltaDoesRow.holds Try.pinned (OpenSpec.ofChange deltaDoesSpec)

/-- ITS FALSE NEIGHBOUR: 'it returns false'. Refute it at one input. -/
def deltaDoesWrong : ChangeSpec := { name := "deltaDoes", fn := fun _ => fun
  | [d1, d2] => { results := [.lit (.bool false)], args := [d1, d2] }
  | _ => none }
def DeltaDoesWrongFalsely : Prop := deltaDoesRow.holds Try.pinned (OpenSpec.ofChange deltaDoesWrong)

/-- 'winepresslaw05.DeltaBack': WHATEVER THE INPUT: true; the input reads as it did. -/
def deltaBackSpec : ChangeSpec := { name := "deltaBack", fn := fun _ => fun
  | [d1, d2] => { results := [.lit (.bool true)], args := [d1, d2] }
  | _ => none }
def deltaBackRow : OpenClaim := { program := "ytgfbdopeepppkaa", sum := "cdacce49909fc47debc916bb87fc41e0d3b596ea6b6142bee5de52123546793e", func := "winepress/winepresslaw05.DeltaBack", spec := "deltaBack", unfollowed := true, recurses := true, apart := false }
def DeltaBackSaid : Prop := deltaBackRow.holds Try.pinned (OpenSpec.ofChange deltaBackSpec)

/-- ITS FALSE NEIGHBOUR: 'it returns false'. Refute it at one input. -/
def deltaBackWrong : ChangeSpec := { name := "deltaBack", fn := fun _ => fun
  | [d1, d2] => { results := [.lit (.bool false)], args := [d1, d2] }
  | _ => none }
def DeltaBackWrongFalsely : Prop := deltaBackRow.holds Try.pinned (OpenSpec.ofChange deltaBackWrong)

/-- 'winepresslaw05.DeltaRamp': WHATEVER THE INPUT: true; the input reads as it did. -/
def deltaRampSpec : ChangeSpec := { name := "deltaRamp", fn := fun _ => fun
  | [d1, d2, d3, d4] => { results := [.lit (.bool true)], args := [d1, d2, d3, d4] }
  | _ => none }
def deltaRampRow : OpenClaim := { program := "ytgfbdopeepppkaa", sum := "cdacce49909fc47debc916bb87fc41e0d3b596ea6b6142bee5de52123546793e", func := "winepress/winepresslaw05.DeltaRamp", spec := "deltaRamp", unfollowed := true, recurses := true, apart := false }
def DeltaRampSaid : Prop := deltaRampRow.holds Try.pinned (OpenSpec.ofChange deltaRampSpec)

/-- ITS FALSE NEIGHBOUR: 'it returns false'. Refute it at one input. -/
def deltaRampWrong : ChangeSpec := { name := "deltaRamp", fn := fun _ => fun
  | [d1, d2, d3, d4] => { results := [.lit (.bool false)], args := [d1, d2, d3, d4] }
  | _ => none }
def DeltaRampWrongFalsely : Prop := deltaRampRow.holds Try.pinned (OpenSpec.ofChange deltaRampWrong)

/-- 'winepresslaw06.FoldDoes': WHATEVER THE INPUT: true; the input reads as it did. -/
def foldDoesSpec : ChangeSpec := { name := "foldDoes", fn := fun _ => fun
  | [d1, d2] => { results := [.lit (.bool true)], args := [d1, d2] }
  | _ => none }
def foldDoesRow : OpenClaim := { program := "ytgfbdopeepppkaa", sum := "cdacce49909fc47debc916bb87fc41e0d3b596ea6b6142bee5de52123546793e", func := "winepress/winepresslaw06.FoldDoes", spec := "foldDoes", unfollowed := true, recurses := true, apart := false }
def FoldDoesSaid : Prop := foldDoesRow.holds Try.pinned (OpenSpec.ofChange foldDoesSpec)

/-- ITS FALSE NEIGHBOUR: 'it returns false'. Refute it at one input. -/
def foldDoesWrong : ChangeSpec := { name := "foldDoes", fn := fun _ => fun
  | [d1, d2] => { results := [.lit (.bool false)], args := [d1, d2] }
  | _ => none }
def FoldDoesWrongFalsely : Prop := foldDoesRow.holds Try.pinned (OpenSpec.ofChange foldDoesWrong)

/-- 'winepresslaw06.FoldBack': WHATEVER THE INPUT: true; the input reads as it did. -/
def foldBackSpec : ChangeSpec := { name := "foldBack", fn := fun _ => fun
  | [d1, d2] => { results := [.lit (.bool true)], args := [d1, d2] }
  | _ => none }
def foldBackRow : OpenClaim := { program := "ytgfbdopeepppkaa", sum := "cdacce49909fc47debc916bb87fc41e0d3b596ea6b6142bee5de52123546793e", func := "winepress/winepresslaw06.FoldBack", spec := "foldBack", unfollowed := true, recurses := true, apart := false }
def FoldBackSaid : Prop := foldBackRow.holds Try.pinned (OpenSpec.ofChange foldBackSpec)

/-- ITS FALSE NEIGHBOUR: 'it returns false'. Refute it at one input. -/
def foldBackWrong : ChangeSpec := { name := "foldBack", fn := fun _ => fun
  | [d1, d2] => { results := [.lit (.bool false)], args := [d1, d2] }
  | _ => none }
def FoldBackWrongFalsely : Prop := foldBackRow.holds Try.pinned (OpenSpec.ofChange foldBackWrong)

/-- 'winepresslaw06.FoldNear': WHATEVER THE INPUT: true; the input reads as it did. -/
def foldNearSpec : ChangeSpec := { name := "foldNear", fn := fun _ => fun
  | [d1, d2, d3] => { results := [.lit (.bool true)], args := [d1, d2, d3] }
  | _ => none }
def foldNearRow : OpenClaim := { program := "ytgfbdopeepppkaa", sum := "cdacce49909fc47debc916bb87fc41e0d3b596ea6b6142bee5de52123546793e", func := "winepress/winepresslaw06.FoldNear", spec := "foldNear", unfollowed := true, recurses := true, apart := false }
def FoldNearSaid : Prop := foldNearRow.holds Try.pinned (OpenSpec.ofChange foldNearSpec)

/-- ITS FALSE NEIGHBOUR: 'it returns false'. Refute it at one input. -/
def foldNearWrong : ChangeSpec := { name := "foldNear", fn := fun _ => fun
  | [d1, d2, d3] => { results := [.lit (.bool false)], args := [d1, d2, d3] }
  | _ => none }
def FoldNearWrongFalsely : Prop := foldNearRow.holds Try.pinned (OpenSpec.ofChange foldNearWrong)

/- THE SECOND FORM. 'bulk': how many values and letters a reading holds, each counted each time it is reached (what is shared counts as often as it is met; a slice's spare places count too). A statement '..UptoSaid' is the law's where the arguments, and the package variables that the reading takes, are together of bulk at most 1048576: NARROWER than '..Said'. Prove '..Said' where nothing that the law and all that it calls make is longer than what came in: it says more and counts as full. Else prove '..UptoSaid'. A law counts once. -/
mutual
def uptoBulk {H : Type} : DataW H → Nat
  | .lit (.string bytes) => bytes.length + 1
  | .lit _ => 1
  | .nil => 1
  | .ptr d => uptoBulk d + 1
  | .slice elems spare => uptoBulkAll elems + uptoBulkAll spare + 1
  | .agg parts => uptoBulkAll parts + 1
  | .iface _ d => uptoBulk d + 1
  | .map entries => uptoBulkEntries entries + 1
  | .held _ => 1
def uptoBulkAll {H : Type} : List (DataW H) → Nat
  | [] => 0
  | d :: r => uptoBulk d + uptoBulkAll r
def uptoBulkEntries {H : Type} : List (Lit × DataW H) → Nat
  | [] => 0
  | x :: r => uptoBulkEntry x + uptoBulkEntries r
def uptoBulkEntry {H : Type} : Lit × DataW H → Nat
  | (.string bytes, d) => bytes.length + uptoBulk d + 1
  | (_, d) => uptoBulk d + 1
 end
def uptoSmall : (H : Type) → List (DataW H) → Bool := fun _ ds => decide (uptoBulkAll ds ≤ 1048576)
def OpenSpec.upto (s : _root_.Go.ChangeSpec) : _root_.Go.OpenSpec := { _root_.Go.OpenSpec.ofChange s with cond := some uptoSmall }

/-- 'winepresslaw05.DeltaDoes', WHERE WHAT IT READS IS OF BULK AT MOST 1048576: true; the input reads as it did. -/
def deltaDoesUptoRow : OpenClaim := { program := "ytgfbdopeepppkaa", sum := "cdacce49909fc47debc916bb87fc41e0d3b596ea6b6142bee5de52123546793e", func := "winepress/winepresslaw05.DeltaDoes", spec := "deltaDoes", unfollowed := true, recurses := true, apart := false, narrowed := true }
def DeltaDoesUptoSaid : Prop := deltaDoesUptoRow.holds Try.pinned (OpenSpec.upto deltaDoesSpec)

/-- 'winepresslaw05.DeltaBack', WHERE WHAT IT READS IS OF BULK AT MOST 1048576: true; the input reads as it did. -/
def deltaBackUptoRow : OpenClaim := { program := "ytgfbdopeepppkaa", sum := "cdacce49909fc47debc916bb87fc41e0d3b596ea6b6142bee5de52123546793e", func := "winepress/winepresslaw05.DeltaBack", spec := "deltaBack", unfollowed := true, recurses := true, apart := false, narrowed := true }
def DeltaBackUptoSaid : Prop := deltaBackUptoRow.holds Try.pinned (OpenSpec.upto deltaBackSpec)

/-- 'winepresslaw05.DeltaRamp', WHERE WHAT IT READS IS OF BULK AT MOST 1048576: true; the input reads as it did. -/
def deltaRampUptoRow : OpenClaim := { program := "ytgfbdopeepppkaa", sum := "cdacce49909fc47debc916bb87fc41e0d3b596ea6b6142bee5de52123546793e", func := "winepress/winepresslaw05.DeltaRamp", spec := "deltaRamp", unfollowed := true, recurses := true, apart := false, narrowed := true }
def DeltaRampUptoSaid : Prop := deltaRampUptoRow.holds Try.pinned (OpenSpec.upto deltaRampSpec)

/-- 'winepresslaw06.FoldDoes', WHERE WHAT IT READS IS OF BULK AT MOST 1048576: true; the input reads as it did. -/
def foldDoesUptoRow : OpenClaim := { program := "ytgfbdopeepppkaa", sum := "cdacce49909fc47debc916bb87fc41e0d3b596ea6b6142bee5de52123546793e", func := "winepress/winepresslaw06.FoldDoes", spec := "foldDoes", unfollowed := true, recurses := true, apart := false, narrowed := true }
def FoldDoesUptoSaid : Prop := foldDoesUptoRow.holds Try.pinned (OpenSpec.upto foldDoesSpec)

/-- 'winepresslaw06.FoldBack', WHERE WHAT IT READS IS OF BULK AT MOST 1048576: true; the input reads as it did. -/
def foldBackUptoRow : OpenClaim := { program := "ytgfbdopeepppkaa", sum := "cdacce49909fc47debc916bb87fc41e0d3b596ea6b6142bee5de52123546793e", func := "winepress/winepresslaw06.FoldBack", spec := "foldBack", unfollowed := true, recurses := true, apart := false, narrowed := true }
def FoldBackUptoSaid : Prop := foldBackUptoRow.holds Try.pinned (OpenSpec.upto foldBackSpec)

/-- 'winepresslaw06.FoldNear', WHERE WHAT IT READS IS OF BULK AT MOST 1048576: true; the input reads as it did. -/
def foldNearUptoRow : OpenClaim := { program := "ytgfbdopeepppkaa", sum := "cdacce49909fc47debc916bb87fc41e0d3b596ea6b6142bee5de52123546793e", func := "winepress/winepresslaw06.FoldNear", spec := "foldNear", unfollowed := true, recurses := true, apart := false, narrowed := true }
def FoldNearUptoSaid : Prop := foldNearUptoRow.holds Try.pinned (OpenSpec.upto foldNearSpec)

end Rows
end Go.Proofs.Ytgfbdopeepppkaa
