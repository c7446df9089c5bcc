/-
  No cell of these rows narrows 'for every input' (looked for: loops, veiled, ifaces, maps, wideKeys, modest, calm, conditions, laid).
  DERIVED. THE GIVEN ROWS OF THIS SEAT. 6 by the template 'for every input the law returns true; each argument reads behind the call as it read before'; 0 by the template 'total and deterministic' (their statements: YtfjfjadlpnlmjaaTotals.lean).
  GIVEN WITH THE SEED: the statements are not yours to turn. If you find one false, say at which input.
  Laid BY PROGRAM, IN A SANDBOX (cutbox-rows.mjs): the forced cells as the released guide's own fill.sh prints them over the translation f0203f4b8271ff44… (all of the seat's roots in one cut). By AI agents, Wed Nov 11 2026. No macro, syntax, notation, axiom, sorry.
-/
import Derived.Test.YtfjfjadlpnlmjaaChecked
import GoSem.Claim
import GoSem.ClaimJoined
import GoSem.ClaimMapViews
import Derived.JoinedTies
import Derived.KernelRfl
namespace Go.Proofs.Ytfjfjadlpnlmjaa
/- THE CELL 'sum', in the pinned program and in every row, IS THE sha256 OF THE DUMP (.gsa) THAT YtfjfjadlpnlmjaaProg.lean LOADS. Nothing in Lean hashes anything: it is a label: what it is worth is what the hold of that sum in a sandbox is worth. -/
noncomputable def Try.pinned : Pinned := { name := "ytfjfjadlpnlmjaa", sum := "f0203f4b8271ff44bf7357a8b7e4f37822ec81429b2c590fdb9df86d0fa92f48", checked := Try.checked }
namespace Rows
def none {H : Type} : Left H := { results := [], args := [] }

/-- 'winepresslaw12.FenDoes': WHATEVER THE INPUT: true; the input reads as it did. -/
def fenDoesSpec : ChangeSpec := { name := "fenDoes", fn := fun _ => fun
  | [d1, d2] => { results := [.lit (.bool true)], args := [d1, d2] }
  | _ => none }
def fenDoesRow : OpenClaim := { program := "ytfjfjadlpnlmjaa", sum := "f0203f4b8271ff44bf7357a8b7e4f37822ec81429b2c590fdb9df86d0fa92f48", func := "winepress/winepresslaw12.FenDoes", spec := "fenDoes", unfollowed := true, recurses := true, apart := false }
def FenDoesSaid : Prop := fenDoesRow.holds Try.pinned (OpenSpec.ofChange fenDoesSpec)

/-- ITS FALSE NEIGHBOUR: 'it returns false'. Refute it at one input. -/
def fenDoesWrong : ChangeSpec := { name := "fenDoes", fn := fun _ => fun
  | [d1, d2] => { results := [.lit (.bool false)], args := [d1, d2] }
  | _ => none }
def FenDoesWrongFalsely : Prop := fenDoesRow.holds Try.pinned (OpenSpec.ofChange fenDoesWrong)

/-- 'winepresslaw12.FenFinds': WHATEVER THE INPUT: true; the input reads as it did. -/
def fenFindsSpec : ChangeSpec := { name := "fenFinds", fn := fun _ => fun
  | [d1, d2] => { results := [.lit (.bool true)], args := [d1, d2] }
  | _ => none }
def fenFindsRow : OpenClaim := { program := "ytfjfjadlpnlmjaa", sum := "f0203f4b8271ff44bf7357a8b7e4f37822ec81429b2c590fdb9df86d0fa92f48", func := "winepress/winepresslaw12.FenFinds", spec := "fenFinds", unfollowed := true, recurses := true, apart := false }
def FenFindsSaid : Prop := fenFindsRow.holds Try.pinned (OpenSpec.ofChange fenFindsSpec)

/-- ITS FALSE NEIGHBOUR: 'it returns false'. Refute it at one input. -/
def fenFindsWrong : ChangeSpec := { name := "fenFinds", fn := fun _ => fun
  | [d1, d2] => { results := [.lit (.bool false)], args := [d1, d2] }
  | _ => none }
def FenFindsWrongFalsely : Prop := fenFindsRow.holds Try.pinned (OpenSpec.ofChange fenFindsWrong)

/-- 'winepresslaw12.FenNil': WHATEVER THE INPUT: true; the input reads as it did. -/
def fenNilSpec : ChangeSpec := { name := "fenNil", fn := fun _ => fun
  | [d1, d2] => { results := [.lit (.bool true)], args := [d1, d2] }
  | _ => none }
def fenNilRow : OpenClaim := { program := "ytfjfjadlpnlmjaa", sum := "f0203f4b8271ff44bf7357a8b7e4f37822ec81429b2c590fdb9df86d0fa92f48", func := "winepress/winepresslaw12.FenNil", spec := "fenNil", unfollowed := true, recurses := true, apart := false }
def FenNilSaid : Prop := fenNilRow.holds Try.pinned (OpenSpec.ofChange fenNilSpec)

/-- ITS FALSE NEIGHBOUR: 'it returns false'. Refute it at one input. -/
def fenNilWrong : ChangeSpec := { name := "fenNil", fn := fun _ => fun
  | [d1, d2] => { results := [.lit (.bool false)], args := [d1, d2] }
  | _ => none }
def FenNilWrongFalsely : Prop := fenNilRow.holds Try.pinned (OpenSpec.ofChange fenNilWrong)

/-- 'winepresslaw13.FreqDoes': WHATEVER THE INPUT: true; the input reads as it did. -/
def freqDoesSpec : ChangeSpec := { name := "freqDoes", fn := fun _ => fun
  | [d1, d2, d3, d4, d5] => { results := [.lit (.bool true)], args := [d1, d2, d3, d4, d5] }
  | _ => none }
def freqDoesRow : OpenClaim := { program := "ytfjfjadlpnlmjaa", sum := "f0203f4b8271ff44bf7357a8b7e4f37822ec81429b2c590fdb9df86d0fa92f48", func := "winepress/winepresslaw13.FreqDoes", spec := "freqDoes", unfollowed := true, recurses := true, apart := false }
def FreqDoesSaid : Prop := freqDoesRow.holds Try.pinned (OpenSpec.ofChange freqDoesSpec)

/-- ITS FALSE NEIGHBOUR: 'it returns false'. Refute it at one input. -/
def freqDoesWrong : ChangeSpec := { name := "freqDoes", fn := fun _ => fun
  | [d1, d2, d3, d4, d5] => { results := [.lit (.bool false)], args := [d1, d2, d3, d4, d5] }
  | _ => none }
def FreqDoesWrongFalsely : Prop := freqDoesRow.holds Try.pinned (OpenSpec.ofChange freqDoesWrong)

/-- 'winepresslaw13.FreqKeeps': WHATEVER THE INPUT: true; the input reads as it did. -/
def freqKeepsSpec : ChangeSpec := { name := "freqKeeps", fn := fun _ => fun
  | [d1, d2, d3, d4] => { results := [.lit (.bool true)], args := [d1, d2, d3, d4] }
  | _ => none }
def freqKeepsRow : OpenClaim := { program := "ytfjfjadlpnlmjaa", sum := "f0203f4b8271ff44bf7357a8b7e4f37822ec81429b2c590fdb9df86d0fa92f48", func := "winepress/winepresslaw13.FreqKeeps", spec := "freqKeeps", unfollowed := true, recurses := true, apart := false }
def FreqKeepsSaid : Prop := freqKeepsRow.holds Try.pinned (OpenSpec.ofChange freqKeepsSpec)

/-- ITS FALSE NEIGHBOUR: 'it returns false'. Refute it at one input. -/
def freqKeepsWrong : ChangeSpec := { name := "freqKeeps", fn := fun _ => fun
  | [d1, d2, d3, d4] => { results := [.lit (.bool false)], args := [d1, d2, d3, d4] }
  | _ => none }
def FreqKeepsWrongFalsely : Prop := freqKeepsRow.holds Try.pinned (OpenSpec.ofChange freqKeepsWrong)

/-- 'winepresslaw13.FreqNil': WHATEVER THE INPUT: true; the input reads as it did. -/
def freqNilSpec : ChangeSpec := { name := "freqNil", fn := fun _ => fun
  | [d] => { results := [.lit (.bool true)], args := [d] }
  | _ => none }
def freqNilRow : OpenClaim := { program := "ytfjfjadlpnlmjaa", sum := "f0203f4b8271ff44bf7357a8b7e4f37822ec81429b2c590fdb9df86d0fa92f48", func := "winepress/winepresslaw13.FreqNil", spec := "freqNil", unfollowed := true, recurses := true, apart := false }
def FreqNilSaid : Prop := freqNilRow.holds Try.pinned (OpenSpec.ofChange freqNilSpec)

/-- ITS FALSE NEIGHBOUR: 'it returns false'. Refute it at one input. -/
def freqNilWrong : ChangeSpec := { name := "freqNil", fn := fun _ => fun
  | [d] => { results := [.lit (.bool false)], args := [d] }
  | _ => none }
def FreqNilWrongFalsely : Prop := freqNilRow.holds Try.pinned (OpenSpec.ofChange freqNilWrong)

/- THE SECOND FORM. 'bulk': how many values and letters a reading holds, each counted each time it is reached (what is shared counts as often as it is met; a slice's spare places count too). A statement '..UptoSaid' is the law's where the arguments, and the package variables that the reading takes, are together of bulk at most 1048576: NARROWER than '..Said'. Prove '..Said' where nothing that the law and all that it calls make is longer than what came in: it says more and counts as full. Else prove '..UptoSaid'. A law counts once. -/
mutual
def uptoBulk {H : Type} : DataW H → Nat
  | .lit (.string bytes) => bytes.length + 1
  | .lit _ => 1
  | .nil => 1
  | .ptr d => uptoBulk d + 1
  | .slice elems spare => uptoBulkAll elems + uptoBulkAll spare + 1
  | .agg parts => uptoBulkAll parts + 1
  | .iface _ d => uptoBulk d + 1
  | .map entries => uptoBulkEntries entries + 1
  | .held _ => 1
def uptoBulkAll {H : Type} : List (DataW H) → Nat
  | [] => 0
  | d :: r => uptoBulk d + uptoBulkAll r
def uptoBulkEntries {H : Type} : List (Lit × DataW H) → Nat
  | [] => 0
  | x :: r => uptoBulkEntry x + uptoBulkEntries r
def uptoBulkEntry {H : Type} : Lit × DataW H → Nat
  | (.string bytes, d) => bytes.length + uptoBulk d + 1
  | (_, d) => uptoBulk d + 1
 end
def uptoSmall : (H : Type) → List (DataW H) → Bool := fun _ ds => decide (uptoBulkAll ds ≤ 1048576)
def OpenSpec.upto (s : _root_.Go.ChangeSpec) : _root_.Go.OpenSpec := { _root_.Go.OpenSpec.ofChange s with cond := some uptoSmall }

/-- 'winepresslaw12.FenDoes', WHERE WHAT IT READS IS OF BULK AT MOST 1048576: true; the input reads as it did. -/
def fenDoesUptoRow : OpenClaim := { program := "ytfjfjadlpnlmjaa", sum := "f0203f4b8271ff44bf7357a8b7e4f37822ec81429b2c590fdb9df86d0fa92f48", func := "winepress/winepresslaw12.FenDoes", spec := "fenDoes", unfollowed := true, recurses := true, apart := false, narrowed := true }
def FenDoesUptoSaid : Prop := fenDoesUptoRow.holds Try.pinned (OpenSpec.upto fenDoesSpec)

/-- 'winepresslaw12.FenFinds', WHERE WHAT IT READS IS OF BULK AT MOST 1048576: true; the input reads as it did. -/
def fenFindsUptoRow : OpenClaim := { program := "ytfjfjadlpnlmjaa", sum := "f0203f4b8271ff44bf7357a8b7e4f37822ec81429b2c590fdb9df86d0fa92f48", func := "winepress/winepresslaw12.FenFinds", spec := "fenFinds", unfollowed := true, recurses := true, apart := false, narrowed := true }
def FenFindsUptoSaid : Prop := fenFindsUptoRow.holds Try.pinned (OpenSpec.upto fenFindsSpec)

/-- 'winepresslaw12.FenNil', WHERE WHAT IT READS IS OF BULK AT MOST 1048576: true; the input reads as it did. -/
def fenNilUptoRow : OpenClaim := { program := "ytfjfjadlpnlmjaa", sum := "f0203f4b8271ff44bf7357a8b7e4f37822ec81429b2c590fdb9df86d0fa92f48", func := "winepress/winepresslaw12.FenNil", spec := "fenNil", unfollowed := true, recurses := true, apart := false, narrowed := true }
def FenNilUptoSaid : Prop := fenNilUptoRow.holds Try.pinned (OpenSpec.upto fenNilSpec)

/-- 'winepresslaw13.FreqDoes', WHERE WHAT IT READS IS OF BULK AT MOST 1048576: true; the input reads as it did. -/
def freqDoesUptoRow : OpenClaim := { program := "ytfjfjadlpnlmjaa", sum := "f0203f4b8271ff44bf7357a8b7e4f37822ec81429b2c590fdb9df86d0fa92f48", func := "winepress/winepresslaw13.FreqDoes", spec := "freqDoes", unfollowed := true, recurses := true, apart := false, narrowed := true }
def FreqDoesUptoSaid : Prop := freqDoesUptoRow.holds Try.pinned (OpenSpec.upto freqDoesSpec)

/-- 'winepresslaw13.FreqKeeps', WHERE WHAT IT READS IS OF BULK AT MOST 1048576: true; the input reads as it did. -/
def freqKeepsUptoRow : OpenClaim := { program := "ytfjfjadlpnlmjaa", sum := "f0203f4b8271ff44bf7357a8b7e4f37822ec81429b2c590fdb9df86d0fa92f48", func := "winepress/winepresslaw13.FreqKeeps", spec := "freqKeeps", unfollowed := true, recurses := true, apart := false, narrowed := true }
def FreqKeepsUptoSaid : Prop := freqKeepsUptoRow.holds Try.pinned (OpenSpec.upto freqKeepsSpec)

/-- 'winepresslaw13.FreqNil', WHERE WHAT IT READS IS OF BULK AT MOST 1048576: true; the input reads as it did. -/
def freqNilUptoRow : OpenClaim := { program := "ytfjfjadlpnlmjaa", sum := "f0203f4b8271ff44bf7357a8b7e4f37822ec81429b2c590fdb9df86d0fa92f48", func := "winepress/winepresslaw13.FreqNil", spec := "freqNil", unfollowed := true, recurses := true, apart := false, narrowed := true }
def FreqNilUptoSaid : Prop := freqNilUptoRow.holds Try.pinned (OpenSpec.upto freqNilSpec)

end Rows
end Go.Proofs.Ytfjfjadlpnlmjaa
