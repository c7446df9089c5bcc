/-
  No cell of these rows narrows 'for every input' (looked for: loops, veiled, ifaces, maps, wideKeys, modest, calm, conditions, laid).
  DERIVED. THE GIVEN ROWS OF THIS SEAT. 4 by the template 'for every input the law returns true; each argument reads behind the call as it read before'; 0 by the template 'total and deterministic' (their statements: YtgdebfjjohoghaaTotals.lean).
  GIVEN WITH THE SEED: the statements are not yours to turn. If you find one false, say at which input.
  Laid BY PROGRAM, IN A SANDBOX (cutbox-rows.mjs): the forced cells as the released guide's own fill.sh prints them over the translation 61e32a01e6939028… (all of the seat's roots in one cut). By AI agents, Wed Nov 11 2026. No macro, syntax, notation, axiom, sorry.
-/
import Derived.Test.YtgdebfjjohoghaaChecked
import GoSem.Claim
import GoSem.ClaimJoined
import GoSem.ClaimMapViews
import Derived.JoinedTies
import Derived.KernelRfl
namespace Go.Proofs.Ytgdebfjjohoghaa
/- THE CELL 'sum', in the pinned program and in every row, IS THE sha256 OF THE DUMP (.gsa) THAT YtgdebfjjohoghaaProg.lean LOADS. Nothing in Lean hashes anything: it is a label: what it is worth is what the hold of that sum in a sandbox is worth. -/
noncomputable def Try.pinned : Pinned := { name := "ytgdebfjjohoghaa", sum := "61e32a01e693902871eee4a1ede66cee900a26d76b7cd241010e79d0773746d8", checked := Try.checked }
namespace Rows
def none {H : Type} : Left H := { results := [], args := [] }

/-- 'winepresslaw17.RcPuts': WHATEVER THE INPUT: true; the input reads as it did. -/
def rcPutsSpec : ChangeSpec := { name := "rcPuts", fn := fun _ => fun
  | [d] => { results := [.lit (.bool true)], args := [d] }
  | _ => none }
def rcPutsRow : OpenClaim := { program := "ytgdebfjjohoghaa", sum := "61e32a01e693902871eee4a1ede66cee900a26d76b7cd241010e79d0773746d8", func := "winepress/winepresslaw17.RcPuts", spec := "rcPuts", unfollowed := true, recurses := true, apart := false }
def RcPutsSaid : Prop := rcPutsRow.holds Try.pinned (OpenSpec.ofChange rcPutsSpec)

/-- ITS FALSE NEIGHBOUR: 'it returns false'. Refute it at one input. -/
def rcPutsWrong : ChangeSpec := { name := "rcPuts", fn := fun _ => fun
  | [d] => { results := [.lit (.bool false)], args := [d] }
  | _ => none }
def RcPutsWrongFalsely : Prop := rcPutsRow.holds Try.pinned (OpenSpec.ofChange rcPutsWrong)

/-- 'winepresslaw17.RcTakes': WHATEVER THE INPUT: true; the input reads as it did. -/
def rcTakesSpec : ChangeSpec := { name := "rcTakes", fn := fun _ => fun
  | [d1, d2] => { results := [.lit (.bool true)], args := [d1, d2] }
  | _ => none }
def rcTakesRow : OpenClaim := { program := "ytgdebfjjohoghaa", sum := "61e32a01e693902871eee4a1ede66cee900a26d76b7cd241010e79d0773746d8", func := "winepress/winepresslaw17.RcTakes", spec := "rcTakes", unfollowed := true, recurses := true, apart := false }
def RcTakesSaid : Prop := rcTakesRow.holds Try.pinned (OpenSpec.ofChange rcTakesSpec)

/-- ITS FALSE NEIGHBOUR: 'it returns false'. Refute it at one input. -/
def rcTakesWrong : ChangeSpec := { name := "rcTakes", fn := fun _ => fun
  | [d1, d2] => { results := [.lit (.bool false)], args := [d1, d2] }
  | _ => none }
def RcTakesWrongFalsely : Prop := rcTakesRow.holds Try.pinned (OpenSpec.ofChange rcTakesWrong)

/-- 'winepresslaw17.RcBack': WHATEVER THE INPUT: true; the input reads as it did. -/
def rcBackSpec : ChangeSpec := { name := "rcBack", fn := fun _ => fun
  | [d] => { results := [.lit (.bool true)], args := [d] }
  | _ => none }
def rcBackRow : OpenClaim := { program := "ytgdebfjjohoghaa", sum := "61e32a01e693902871eee4a1ede66cee900a26d76b7cd241010e79d0773746d8", func := "winepress/winepresslaw17.RcBack", spec := "rcBack", unfollowed := true, recurses := true, apart := false }
def RcBackSaid : Prop := rcBackRow.holds Try.pinned (OpenSpec.ofChange rcBackSpec)

/-- ITS FALSE NEIGHBOUR: 'it returns false'. Refute it at one input. -/
def rcBackWrong : ChangeSpec := { name := "rcBack", fn := fun _ => fun
  | [d] => { results := [.lit (.bool false)], args := [d] }
  | _ => none }
def RcBackWrongFalsely : Prop := rcBackRow.holds Try.pinned (OpenSpec.ofChange rcBackWrong)

/-- 'winepresslaw17.RcNil': WHATEVER THE INPUT: true; the input reads as it did. -/
def rcNilSpec : ChangeSpec := { name := "rcNil", fn := fun _ => fun
  | [d1, d2, d3] => { results := [.lit (.bool true)], args := [d1, d2, d3] }
  | _ => none }
def rcNilRow : OpenClaim := { program := "ytgdebfjjohoghaa", sum := "61e32a01e693902871eee4a1ede66cee900a26d76b7cd241010e79d0773746d8", func := "winepress/winepresslaw17.RcNil", spec := "rcNil", unfollowed := true, recurses := true, apart := false }
def RcNilSaid : Prop := rcNilRow.holds Try.pinned (OpenSpec.ofChange rcNilSpec)

/-- ITS FALSE NEIGHBOUR: 'it returns false'. Refute it at one input. -/
def rcNilWrong : ChangeSpec := { name := "rcNil", fn := fun _ => fun
  | [d1, d2, d3] => { results := [.lit (.bool false)], args := [d1, d2, d3] }
  | _ => none }
def RcNilWrongFalsely : Prop := rcNilRow.holds Try.pinned (OpenSpec.ofChange rcNilWrong)

/- THE SECOND FORM. 'bulk': how many values and letters a reading holds, each counted each time it is reached (what is shared counts as often as it is met; a slice's spare places count too). A statement '..UptoSaid' is the law's where the arguments, and the package variables that the reading takes, are together of bulk at most 1048576: NARROWER than '..Said'. Prove '..Said' where nothing that the law and all that it calls make is longer than what came in: it says more and counts as full. Else prove '..UptoSaid'. A law counts once. -/
mutual
def uptoBulk {H : Type} : DataW H → Nat
  | .lit (.string bytes) => bytes.length + 1
  | .lit _ => 1
  | .nil => 1
  | .ptr d => uptoBulk d + 1
  | .slice elems spare => uptoBulkAll elems + uptoBulkAll spare + 1
  | .agg parts => uptoBulkAll parts + 1
  | .iface _ d => uptoBulk d + 1
  | .map entries => uptoBulkEntries entries + 1
  | .held _ => 1
def uptoBulkAll {H : Type} : List (DataW H) → Nat
  | [] => 0
  | d :: r => uptoBulk d + uptoBulkAll r
def uptoBulkEntries {H : Type} : List (Lit × DataW H) → Nat
  | [] => 0
  | x :: r => uptoBulkEntry x + uptoBulkEntries r
def uptoBulkEntry {H : Type} : Lit × DataW H → Nat
  | (.string bytes, d) => bytes.length + uptoBulk d + 1
  | (_, d) => uptoBulk d + 1
 end
def uptoSmall : (H : Type) → List (DataW H) → Bool := fun _ ds => decide (uptoBulkAll ds ≤ 1048576)
def OpenSpec.upto (s : _root_.Go.ChangeSpec) : _root_.Go.OpenSpec := { _root_.Go.OpenSpec.ofChange s with cond := some uptoSmall }

/-- 'winepresslaw17.RcPuts', WHERE WHAT IT READS IS OF BULK AT MOST 1048576: true; the input reads as it did. -/
def rcPutsUptoRow : OpenClaim := { program := "ytgdebfjjohoghaa", sum := "61e32a01e693902871eee4a1ede66cee900a26d76b7cd241010e79d0773746d8", func := "winepress/winepresslaw17.RcPuts", spec := "rcPuts", unfollowed := true, recurses := true, apart := false, narrowed := true }
def RcPutsUptoSaid : Prop := rcPutsUptoRow.holds Try.pinned (OpenSpec.upto rcPutsSpec)

/-- 'winepresslaw17.RcTakes', WHERE WHAT IT READS IS OF BULK AT MOST 1048576: true; the input reads as it did. -/
def rcTakesUptoRow : OpenClaim := { program := "ytgdebfjjohoghaa", sum := "61e32a01e693902871eee4a1ede66cee900a26d76b7cd241010e79d0773746d8", func := "winepress/winepresslaw17.RcTakes", spec := "rcTakes", unfollowed := true, recurses := true, apart := false, narrowed := true }
def RcTakesUptoSaid : Prop := rcTakesUptoRow.holds Try.pinned (OpenSpec.upto rcTakesSpec)

/-- 'winepresslaw17.RcBack', WHERE WHAT IT READS IS OF BULK AT MOST 1048576: true; the input reads as it did. -/
def rcBackUptoRow : OpenClaim := { program := "ytgdebfjjohoghaa", sum := "61e32a01e693902871eee4a1ede66cee900a26d76b7cd241010e79d0773746d8", func := "winepress/winepresslaw17.RcBack", spec := "rcBack", unfollowed := true, recurses := true, apart := false, narrowed := true }
def RcBackUptoSaid : Prop := rcBackUptoRow.holds Try.pinned (OpenSpec.upto rcBackSpec)

/-- 'winepresslaw17.RcNil', WHERE WHAT IT READS IS OF BULK AT MOST 1048576: true; the input reads as it did. -/
def rcNilUptoRow : OpenClaim := { program := "ytgdebfjjohoghaa", sum := "61e32a01e693902871eee4a1ede66cee900a26d76b7cd241010e79d0773746d8", func := "winepress/winepresslaw17.RcNil", spec := "rcNil", unfollowed := true, recurses := true, apart := false, narrowed := true }
def RcNilUptoSaid : Prop := rcNilUptoRow.holds Try.pinned (OpenSpec.upto rcNilSpec)

end Rows
end Go.Proofs.Ytgdebfjjohoghaa
