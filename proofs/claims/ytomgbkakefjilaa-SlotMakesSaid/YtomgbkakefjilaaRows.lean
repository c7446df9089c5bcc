/-
  No cell of these rows narrows 'for every input' (looked for: loops, veiled, ifaces, maps, wideKeys, modest, calm, conditions, laid).
  DERIVED. THE GIVEN ROWS OF THIS SEAT. 5 by the template 'for every input the law returns true; each argument reads behind the call as it read before'; 0 by the template 'total and deterministic' (their statements: YtomgbkakefjilaaTotals.lean).
  GIVEN WITH THE SEED: the statements are not yours to turn. If you find one false, say at which input.
  Laid BY PROGRAM, IN A SANDBOX (cutbox-rows.mjs): the forced cells as the released guide's own fill.sh prints them over the translation 7d9b0ccdca9fbc8e… (all of the seat's roots in one cut). By AI agents, Wed Nov 11 2026. No macro, syntax, notation, axiom, sorry.
-/
import Derived.Test.YtomgbkakefjilaaChecked
import GoSem.Claim
import GoSem.ClaimJoined
import GoSem.ClaimMapViews
import Derived.JoinedTies
import Derived.KernelRfl
namespace Go.Proofs.Ytomgbkakefjilaa
/- THE CELL 'sum', in the pinned program and in every row, IS THE sha256 OF THE DUMP (.gsa) THAT YtomgbkakefjilaaProg.lean LOADS. Nothing in Lean hashes anything: it is a label: what it is worth is what the hold of that sum in a sandbox is worth. -/
noncomputable def Try.pinned : Pinned := { name := "ytomgbkakefjilaa", sum := "7d9b0ccdca9fbc8e4fe415b5be91a127859cd2fe0b858448494c7dddc476cba6", checked := Try.checked }
namespace Rows
def none {H : Type} : Left H := { results := [], args := [] }

/-- 'winepresslaw14.NormDoes': WHATEVER THE INPUT: true; the input reads as it did. -/
def normDoesSpec : ChangeSpec := { name := "normDoes", fn := fun _ => fun
  | [d1, d2] => { results := [.lit (.bool true)], args := [d1, d2] }
  | _ => none }
def normDoesRow : OpenClaim := { program := "ytomgbkakefjilaa", sum := "7d9b0ccdca9fbc8e4fe415b5be91a127859cd2fe0b858448494c7dddc476cba6", func := "winepress/winepresslaw14.NormDoes", spec := "normDoes", unfollowed := true, recurses := true, apart := false }
def NormDoesSaid : Prop := normDoesRow.holds Try.pinned (OpenSpec.ofChange normDoesSpec)

/-- ITS FALSE NEIGHBOUR: 'it returns false'. Refute it at one input. -/
def normDoesWrong : ChangeSpec := { name := "normDoes", fn := fun _ => fun
  | [d1, d2] => { results := [.lit (.bool false)], args := [d1, d2] }
  | _ => none }
def NormDoesWrongFalsely : Prop := normDoesRow.holds Try.pinned (OpenSpec.ofChange normDoesWrong)

/-- 'winepresslaw14.NormKeeps': WHATEVER THE INPUT: true; the input reads as it did. -/
def normKeepsSpec : ChangeSpec := { name := "normKeeps", fn := fun _ => fun
  | [d1, d2] => { results := [.lit (.bool true)], args := [d1, d2] }
  | _ => none }
def normKeepsRow : OpenClaim := { program := "ytomgbkakefjilaa", sum := "7d9b0ccdca9fbc8e4fe415b5be91a127859cd2fe0b858448494c7dddc476cba6", func := "winepress/winepresslaw14.NormKeeps", spec := "normKeeps", unfollowed := true, recurses := true, apart := false }
def NormKeepsSaid : Prop := normKeepsRow.holds Try.pinned (OpenSpec.ofChange normKeepsSpec)

/-- ITS FALSE NEIGHBOUR: 'it returns false'. Refute it at one input. -/
def normKeepsWrong : ChangeSpec := { name := "normKeeps", fn := fun _ => fun
  | [d1, d2] => { results := [.lit (.bool false)], args := [d1, d2] }
  | _ => none }
def NormKeepsWrongFalsely : Prop := normKeepsRow.holds Try.pinned (OpenSpec.ofChange normKeepsWrong)

/-- 'winepresslaw14.NormCounts': WHATEVER THE INPUT: true; the input reads as it did. -/
def normCountsSpec : ChangeSpec := { name := "normCounts", fn := fun _ => fun
  | [d] => { results := [.lit (.bool true)], args := [d] }
  | _ => none }
def normCountsRow : OpenClaim := { program := "ytomgbkakefjilaa", sum := "7d9b0ccdca9fbc8e4fe415b5be91a127859cd2fe0b858448494c7dddc476cba6", func := "winepress/winepresslaw14.NormCounts", spec := "normCounts", unfollowed := true, recurses := true, apart := false }
def NormCountsSaid : Prop := normCountsRow.holds Try.pinned (OpenSpec.ofChange normCountsSpec)

/-- ITS FALSE NEIGHBOUR: 'it returns false'. Refute it at one input. -/
def normCountsWrong : ChangeSpec := { name := "normCounts", fn := fun _ => fun
  | [d] => { results := [.lit (.bool false)], args := [d] }
  | _ => none }
def NormCountsWrongFalsely : Prop := normCountsRow.holds Try.pinned (OpenSpec.ofChange normCountsWrong)

/-- 'winepresslaw15.SlotMakes': WHATEVER THE INPUT: true; the input reads as it did. -/
def slotMakesSpec : ChangeSpec := { name := "slotMakes", fn := fun _ => fun
  | [d1, d2, d3, d4] => { results := [.lit (.bool true)], args := [d1, d2, d3, d4] }
  | _ => none }
def slotMakesRow : OpenClaim := { program := "ytomgbkakefjilaa", sum := "7d9b0ccdca9fbc8e4fe415b5be91a127859cd2fe0b858448494c7dddc476cba6", func := "winepress/winepresslaw15.SlotMakes", spec := "slotMakes", unfollowed := true, recurses := true, apart := false }
def SlotMakesSaid : Prop := slotMakesRow.holds Try.pinned (OpenSpec.ofChange slotMakesSpec)

/-- ITS FALSE NEIGHBOUR: 'it returns false'. Refute it at one input. -/
def slotMakesWrong : ChangeSpec := { name := "slotMakes", fn := fun _ => fun
  | [d1, d2, d3, d4] => { results := [.lit (.bool false)], args := [d1, d2, d3, d4] }
  | _ => none }
def SlotMakesWrongFalsely : Prop := slotMakesRow.holds Try.pinned (OpenSpec.ofChange slotMakesWrong)

/-- 'winepresslaw15.SlotEach': WHATEVER THE INPUT: true; the input reads as it did. -/
def slotEachSpec : ChangeSpec := { name := "slotEach", fn := fun _ => fun
  | [d1, d2] => { results := [.lit (.bool true)], args := [d1, d2] }
  | _ => none }
def slotEachRow : OpenClaim := { program := "ytomgbkakefjilaa", sum := "7d9b0ccdca9fbc8e4fe415b5be91a127859cd2fe0b858448494c7dddc476cba6", func := "winepress/winepresslaw15.SlotEach", spec := "slotEach", unfollowed := true, recurses := true, apart := false }
def SlotEachSaid : Prop := slotEachRow.holds Try.pinned (OpenSpec.ofChange slotEachSpec)

/-- ITS FALSE NEIGHBOUR: 'it returns false'. Refute it at one input. -/
def slotEachWrong : ChangeSpec := { name := "slotEach", fn := fun _ => fun
  | [d1, d2] => { results := [.lit (.bool false)], args := [d1, d2] }
  | _ => none }
def SlotEachWrongFalsely : Prop := slotEachRow.holds Try.pinned (OpenSpec.ofChange slotEachWrong)

/- THE SECOND FORM. 'bulk': how many values and letters a reading holds, each counted each time it is reached (what is shared counts as often as it is met; a slice's spare places count too). A statement '..UptoSaid' is the law's where the arguments, and the package variables that the reading takes, are together of bulk at most 1048576: NARROWER than '..Said'. Prove '..Said' where nothing that the law and all that it calls make is longer than what came in: it says more and counts as full. Else prove '..UptoSaid'. A law counts once. -/
mutual
def uptoBulk {H : Type} : DataW H → Nat
  | .lit (.string bytes) => bytes.length + 1
  | .lit _ => 1
  | .nil => 1
  | .ptr d => uptoBulk d + 1
  | .slice elems spare => uptoBulkAll elems + uptoBulkAll spare + 1
  | .agg parts => uptoBulkAll parts + 1
  | .iface _ d => uptoBulk d + 1
  | .map entries => uptoBulkEntries entries + 1
  | .held _ => 1
def uptoBulkAll {H : Type} : List (DataW H) → Nat
  | [] => 0
  | d :: r => uptoBulk d + uptoBulkAll r
def uptoBulkEntries {H : Type} : List (Lit × DataW H) → Nat
  | [] => 0
  | x :: r => uptoBulkEntry x + uptoBulkEntries r
def uptoBulkEntry {H : Type} : Lit × DataW H → Nat
  | (.string bytes, d) => bytes.length + uptoBulk d + 1
  | (_, d) => uptoBulk d + 1
 end
def uptoSmall : (H : Type) → List (DataW H) → Bool := fun _ ds => decide (uptoBulkAll ds ≤ 1048576)
def OpenSpec.upto (s : _root_.Go.ChangeSpec) : _root_.Go.OpenSpec := { _root_.Go.OpenSpec.ofChange s with cond := some uptoSmall }

/-- 'winepresslaw14.NormDoes', WHERE WHAT IT READS IS OF BULK AT MOST 1048576: true; the input reads as it did. -/
def normDoesUptoRow : OpenClaim := { program := "ytomgbkakefjilaa", sum := "7d9b0ccdca9fbc8e4fe415b5be91a127859cd2fe0b858448494c7dddc476cba6", func := "winepress/winepresslaw14.NormDoes", spec := "normDoes", unfollowed := true, recurses := true, apart := false, narrowed := true }
def NormDoesUptoSaid : Prop := normDoesUptoRow.holds Try.pinned (OpenSpec.upto normDoesSpec)

/-- 'winepresslaw14.NormKeeps', WHERE WHAT IT READS IS OF BULK AT MOST 1048576: true; the input reads as it did. -/
def normKeepsUptoRow : OpenClaim := { program := "ytomgbkakefjilaa", sum := "7d9b0ccdca9fbc8e4fe415b5be91a127859cd2fe0b858448494c7dddc476cba6", func := "winepress/winepresslaw14.NormKeeps", spec := "normKeeps", unfollowed := true, recurses := true, apart := false, narrowed := true }
def NormKeepsUptoSaid : Prop := normKeepsUptoRow.holds Try.pinned (OpenSpec.upto normKeepsSpec)

/-- 'winepresslaw14.NormCounts', WHERE WHAT IT READS IS OF BULK AT MOST 1048576: true; the input reads as it did. -/
def normCountsUptoRow : OpenClaim := { program := "ytomgbkakefjilaa", sum := "7d9b0ccdca9fbc8e4fe415b5be91a127859cd2fe0b858448494c7dddc476cba6", func := "winepress/winepresslaw14.NormCounts", spec := "normCounts", unfollowed := true, recurses := true, apart := false, narrowed := true }
def NormCountsUptoSaid : Prop := normCountsUptoRow.holds Try.pinned (OpenSpec.upto normCountsSpec)

/-- 'winepresslaw15.SlotMakes', WHERE WHAT IT READS IS OF BULK AT MOST 1048576: true; the input reads as it did. -/
def slotMakesUptoRow : OpenClaim := { program := "ytomgbkakefjilaa", sum := "7d9b0ccdca9fbc8e4fe415b5be91a127859cd2fe0b858448494c7dddc476cba6", func := "winepress/winepresslaw15.SlotMakes", spec := "slotMakes", unfollowed := true, recurses := true, apart := false, narrowed := true }
def SlotMakesUptoSaid : Prop := slotMakesUptoRow.holds Try.pinned (OpenSpec.upto slotMakesSpec)

/-- 'winepresslaw15.SlotEach', WHERE WHAT IT READS IS OF BULK AT MOST 1048576: true; the input reads as it did. -/
def slotEachUptoRow : OpenClaim := { program := "ytomgbkakefjilaa", sum := "7d9b0ccdca9fbc8e4fe415b5be91a127859cd2fe0b858448494c7dddc476cba6", func := "winepress/winepresslaw15.SlotEach", spec := "slotEach", unfollowed := true, recurses := true, apart := false, narrowed := true }
def SlotEachUptoSaid : Prop := slotEachUptoRow.holds Try.pinned (OpenSpec.upto slotEachSpec)

end Rows
end Go.Proofs.Ytomgbkakefjilaa
