/-
  No cell of these rows narrows 'for every input' (looked for: loops, veiled, ifaces, maps, wideKeys, modest, calm, conditions, laid).
  DERIVED. THE GIVEN ROWS OF THIS SEAT. 7 by the template 'for every input the law returns true; each argument reads behind the call as it read before'; 0 by the template 'total and deterministic' (their statements: YtfdgnhfppginiaaTotals.lean).
  GIVEN WITH THE SEED: the statements are not yours to turn. If you find one false, say at which input.
  Laid BY PROGRAM, IN A SANDBOX (cutbox-rows.mjs): the forced cells as the released guide's own fill.sh prints them over the translation 4d5fa129fd1e55a8… (all of the seat's roots in one cut). By AI agents, Wed Nov 11 2026. No macro, syntax, notation, axiom, sorry.
-/
import Derived.Test.YtfdgnhfppginiaaChecked
import GoSem.Claim
import GoSem.ClaimJoined
import GoSem.ClaimMapViews
import Derived.JoinedTies
import Derived.KernelRfl
namespace Go.Proofs.Ytfdgnhfppginiaa
/- THE CELL 'sum', in the pinned program and in every row, IS THE sha256 OF THE DUMP (.gsa) THAT YtfdgnhfppginiaaProg.lean LOADS. Nothing in Lean hashes anything: it is a label: what it is worth is what the hold of that sum in a sandbox is worth. -/
noncomputable def Try.pinned : Pinned := { name := "ytfdgnhfppginiaa", sum := "4d5fa129fd1e55a8cd981c8da3aba4ebea300a2783873e9897972c30a5e481ff", checked := Try.checked }
namespace Rows
def none {H : Type} : Left H := { results := [], args := [] }

/-- 'winepresslaw18.RansCodes': WHATEVER THE INPUT: true; the input reads as it did. -/
def ransCodesSpec : ChangeSpec := { name := "ransCodes", fn := fun _ => fun
  | [d] => { results := [.lit (.bool true)], args := [d] }
  | _ => none }
def ransCodesRow : OpenClaim := { program := "ytfdgnhfppginiaa", sum := "4d5fa129fd1e55a8cd981c8da3aba4ebea300a2783873e9897972c30a5e481ff", func := "winepress/winepresslaw18.RansCodes", spec := "ransCodes", unfollowed := true, recurses := true, apart := false }
def RansCodesSaid : Prop := ransCodesRow.holds Try.pinned (OpenSpec.ofChange ransCodesSpec)

/-- ITS FALSE NEIGHBOUR: 'it returns false'. Refute it at one input. -/
def ransCodesWrong : ChangeSpec := { name := "ransCodes", fn := fun _ => fun
  | [d] => { results := [.lit (.bool false)], args := [d] }
  | _ => none }
def RansCodesWrongFalsely : Prop := ransCodesRow.holds Try.pinned (OpenSpec.ofChange ransCodesWrong)

/-- 'winepresslaw18.RansBack': WHATEVER THE INPUT: true; the input reads as it did. -/
def ransBackSpec : ChangeSpec := { name := "ransBack", fn := fun _ => fun
  | [d1, d2] => { results := [.lit (.bool true)], args := [d1, d2] }
  | _ => none }
def ransBackRow : OpenClaim := { program := "ytfdgnhfppginiaa", sum := "4d5fa129fd1e55a8cd981c8da3aba4ebea300a2783873e9897972c30a5e481ff", func := "winepress/winepresslaw18.RansBack", spec := "ransBack", unfollowed := true, recurses := true, apart := false }
def RansBackSaid : Prop := ransBackRow.holds Try.pinned (OpenSpec.ofChange ransBackSpec)

/-- ITS FALSE NEIGHBOUR: 'it returns false'. Refute it at one input. -/
def ransBackWrong : ChangeSpec := { name := "ransBack", fn := fun _ => fun
  | [d1, d2] => { results := [.lit (.bool false)], args := [d1, d2] }
  | _ => none }
def RansBackWrongFalsely : Prop := ransBackRow.holds Try.pinned (OpenSpec.ofChange ransBackWrong)

/-- 'winepresslaw18.RansStill': WHATEVER THE INPUT: true; the input reads as it did. -/
def ransStillSpec : ChangeSpec := { name := "ransStill", fn := fun _ => fun
  | [d1, d2] => { results := [.lit (.bool true)], args := [d1, d2] }
  | _ => none }
def ransStillRow : OpenClaim := { program := "ytfdgnhfppginiaa", sum := "4d5fa129fd1e55a8cd981c8da3aba4ebea300a2783873e9897972c30a5e481ff", func := "winepress/winepresslaw18.RansStill", spec := "ransStill", unfollowed := true, recurses := true, apart := false }
def RansStillSaid : Prop := ransStillRow.holds Try.pinned (OpenSpec.ofChange ransStillSpec)

/-- ITS FALSE NEIGHBOUR: 'it returns false'. Refute it at one input. -/
def ransStillWrong : ChangeSpec := { name := "ransStill", fn := fun _ => fun
  | [d1, d2] => { results := [.lit (.bool false)], args := [d1, d2] }
  | _ => none }
def RansStillWrongFalsely : Prop := ransStillRow.holds Try.pinned (OpenSpec.ofChange ransStillWrong)

/-- 'winepresslaw19.RiceCodes': WHATEVER THE INPUT: true; the input reads as it did. -/
def riceCodesSpec : ChangeSpec := { name := "riceCodes", fn := fun _ => fun
  | [d1, d2] => { results := [.lit (.bool true)], args := [d1, d2] }
  | _ => none }
def riceCodesRow : OpenClaim := { program := "ytfdgnhfppginiaa", sum := "4d5fa129fd1e55a8cd981c8da3aba4ebea300a2783873e9897972c30a5e481ff", func := "winepress/winepresslaw19.RiceCodes", spec := "riceCodes", unfollowed := true, recurses := true, apart := false }
def RiceCodesSaid : Prop := riceCodesRow.holds Try.pinned (OpenSpec.ofChange riceCodesSpec)

/-- ITS FALSE NEIGHBOUR: 'it returns false'. Refute it at one input. -/
def riceCodesWrong : ChangeSpec := { name := "riceCodes", fn := fun _ => fun
  | [d1, d2] => { results := [.lit (.bool false)], args := [d1, d2] }
  | _ => none }
def RiceCodesWrongFalsely : Prop := riceCodesRow.holds Try.pinned (OpenSpec.ofChange riceCodesWrong)

/-- 'winepresslaw19.RiceDecodes': WHATEVER THE INPUT: true; the input reads as it did. -/
def riceDecodesSpec : ChangeSpec := { name := "riceDecodes", fn := fun _ => fun
  | [d1, d2, d3] => { results := [.lit (.bool true)], args := [d1, d2, d3] }
  | _ => none }
def riceDecodesRow : OpenClaim := { program := "ytfdgnhfppginiaa", sum := "4d5fa129fd1e55a8cd981c8da3aba4ebea300a2783873e9897972c30a5e481ff", func := "winepress/winepresslaw19.RiceDecodes", spec := "riceDecodes", unfollowed := true, recurses := true, apart := false }
def RiceDecodesSaid : Prop := riceDecodesRow.holds Try.pinned (OpenSpec.ofChange riceDecodesSpec)

/-- ITS FALSE NEIGHBOUR: 'it returns false'. Refute it at one input. -/
def riceDecodesWrong : ChangeSpec := { name := "riceDecodes", fn := fun _ => fun
  | [d1, d2, d3] => { results := [.lit (.bool false)], args := [d1, d2, d3] }
  | _ => none }
def RiceDecodesWrongFalsely : Prop := riceDecodesRow.holds Try.pinned (OpenSpec.ofChange riceDecodesWrong)

/-- 'winepresslaw19.RiceBack': WHATEVER THE INPUT: true; the input reads as it did. -/
def riceBackSpec : ChangeSpec := { name := "riceBack", fn := fun _ => fun
  | [d1, d2] => { results := [.lit (.bool true)], args := [d1, d2] }
  | _ => none }
def riceBackRow : OpenClaim := { program := "ytfdgnhfppginiaa", sum := "4d5fa129fd1e55a8cd981c8da3aba4ebea300a2783873e9897972c30a5e481ff", func := "winepress/winepresslaw19.RiceBack", spec := "riceBack", unfollowed := true, recurses := true, apart := false }
def RiceBackSaid : Prop := riceBackRow.holds Try.pinned (OpenSpec.ofChange riceBackSpec)

/-- ITS FALSE NEIGHBOUR: 'it returns false'. Refute it at one input. -/
def riceBackWrong : ChangeSpec := { name := "riceBack", fn := fun _ => fun
  | [d1, d2] => { results := [.lit (.bool false)], args := [d1, d2] }
  | _ => none }
def RiceBackWrongFalsely : Prop := riceBackRow.holds Try.pinned (OpenSpec.ofChange riceBackWrong)

/-- 'winepresslaw19.RiceSmall': WHATEVER THE INPUT: true; the input reads as it did. -/
def riceSmallSpec : ChangeSpec := { name := "riceSmall", fn := fun _ => fun
  | [d1, d2] => { results := [.lit (.bool true)], args := [d1, d2] }
  | _ => none }
def riceSmallRow : OpenClaim := { program := "ytfdgnhfppginiaa", sum := "4d5fa129fd1e55a8cd981c8da3aba4ebea300a2783873e9897972c30a5e481ff", func := "winepress/winepresslaw19.RiceSmall", spec := "riceSmall", unfollowed := true, recurses := true, apart := false }
def RiceSmallSaid : Prop := riceSmallRow.holds Try.pinned (OpenSpec.ofChange riceSmallSpec)

/-- ITS FALSE NEIGHBOUR: 'it returns false'. Refute it at one input. -/
def riceSmallWrong : ChangeSpec := { name := "riceSmall", fn := fun _ => fun
  | [d1, d2] => { results := [.lit (.bool false)], args := [d1, d2] }
  | _ => none }
def RiceSmallWrongFalsely : Prop := riceSmallRow.holds Try.pinned (OpenSpec.ofChange riceSmallWrong)

/- THE SECOND FORM. 'bulk': how many values and letters a reading holds, each counted each time it is reached (what is shared counts as often as it is met; a slice's spare places count too). A statement '..UptoSaid' is the law's where the arguments, and the package variables that the reading takes, are together of bulk at most 1048576: NARROWER than '..Said'. Prove '..Said' where nothing that the law and all that it calls make is longer than what came in: it says more and counts as full. Else prove '..UptoSaid'. A law counts once. -/
mutual
def uptoBulk {H : Type} : DataW H → Nat
  | .lit (.string bytes) => bytes.length + 1
  | .lit _ => 1
  | .nil => 1
  | .ptr d => uptoBulk d + 1
  | .slice elems spare => uptoBulkAll elems + uptoBulkAll spare + 1
  | .agg parts => uptoBulkAll parts + 1
  | .iface _ d => uptoBulk d + 1
  | .map entries => uptoBulkEntries entries + 1
  | .held _ => 1
def uptoBulkAll {H : Type} : List (DataW H) → Nat
  | [] => 0
  | d :: r => uptoBulk d + uptoBulkAll r
def uptoBulkEntries {H : Type} : List (Lit × DataW H) → Nat
  | [] => 0
  | x :: r => uptoBulkEntry x + uptoBulkEntries r
def uptoBulkEntry {H : Type} : Lit × DataW H → Nat
  | (.string bytes, d) => bytes.length + uptoBulk d + 1
  | (_, d) => uptoBulk d + 1
 end
def uptoSmall : (H : Type) → List (DataW H) → Bool := fun _ ds => decide (uptoBulkAll ds ≤ 1048576)
def OpenSpec.upto (s : _root_.Go.ChangeSpec) : _root_.Go.OpenSpec := { _root_.Go.OpenSpec.ofChange s with cond := some uptoSmall }

/-- 'winepresslaw18.RansCodes', WHERE WHAT IT READS IS OF BULK AT MOST 1048576: true; the input reads as it did. -/
def ransCodesUptoRow : OpenClaim := { program := "ytfdgnhfppginiaa", sum := "4d5fa129fd1e55a8cd981c8da3aba4ebea300a2783873e9897972c30a5e481ff", func := "winepress/winepresslaw18.RansCodes", spec := "ransCodes", unfollowed := true, recurses := true, apart := false, narrowed := true }
def RansCodesUptoSaid : Prop := ransCodesUptoRow.holds Try.pinned (OpenSpec.upto ransCodesSpec)

/-- 'winepresslaw18.RansBack', WHERE WHAT IT READS IS OF BULK AT MOST 1048576: true; the input reads as it did. -/
def ransBackUptoRow : OpenClaim := { program := "ytfdgnhfppginiaa", sum := "4d5fa129fd1e55a8cd981c8da3aba4ebea300a2783873e9897972c30a5e481ff", func := "winepress/winepresslaw18.RansBack", spec := "ransBack", unfollowed := true, recurses := true, apart := false, narrowed := true }
def RansBackUptoSaid : Prop := ransBackUptoRow.holds Try.pinned (OpenSpec.upto ransBackSpec)

/-- 'winepresslaw18.RansStill', WHERE WHAT IT READS IS OF BULK AT MOST 1048576: true; the input reads as it did. -/
def ransStillUptoRow : OpenClaim := { program := "ytfdgnhfppginiaa", sum := "4d5fa129fd1e55a8cd981c8da3aba4ebea300a2783873e9897972c30a5e481ff", func := "winepress/winepresslaw18.RansStill", spec := "ransStill", unfollowed := true, recurses := true, apart := false, narrowed := true }
def RansStillUptoSaid : Prop := ransStillUptoRow.holds Try.pinned (OpenSpec.upto ransStillSpec)

/-- 'winepresslaw19.RiceCodes', WHERE WHAT IT READS IS OF BULK AT MOST 1048576: true; the input reads as it did. -/
def riceCodesUptoRow : OpenClaim := { program := "ytfdgnhfppginiaa", sum := "4d5fa129fd1e55a8cd981c8da3aba4ebea300a2783873e9897972c30a5e481ff", func := "winepress/winepresslaw19.RiceCodes", spec := "riceCodes", unfollowed := true, recurses := true, apart := false, narrowed := true }
def RiceCodesUptoSaid : Prop := riceCodesUptoRow.holds Try.pinned (OpenSpec.upto riceCodesSpec)

/-- 'winepresslaw19.RiceDecodes', WHERE WHAT IT READS IS OF BULK AT MOST 1048576: true; the input reads as it did. -/
def riceDecodesUptoRow : OpenClaim := { program := "ytfdgnhfppginiaa", sum := "4d5fa129fd1e55a8cd981c8da3aba4ebea300a2783873e9897972c30a5e481ff", func := "winepress/winepresslaw19.RiceDecodes", spec := "riceDecodes", unfollowed := true, recurses := true, apart := false, narrowed := true }
def RiceDecodesUptoSaid : Prop := riceDecodesUptoRow.holds Try.pinned (OpenSpec.upto riceDecodesSpec)

/-- 'winepresslaw19.RiceBack', WHERE WHAT IT READS IS OF BULK AT MOST 1048576: true; the input reads as it did. -/
def riceBackUptoRow : OpenClaim := { program := "ytfdgnhfppginiaa", sum := "4d5fa129fd1e55a8cd981c8da3aba4ebea300a2783873e9897972c30a5e481ff", func := "winepress/winepresslaw19.RiceBack", spec := "riceBack", unfollowed := true, recurses := true, apart := false, narrowed := true }
def RiceBackUptoSaid : Prop := riceBackUptoRow.holds Try.pinned (OpenSpec.upto riceBackSpec)

/-- 'winepresslaw19.RiceSmall', WHERE WHAT IT READS IS OF BULK AT MOST 1048576: true; the input reads as it did. -/
def riceSmallUptoRow : OpenClaim := { program := "ytfdgnhfppginiaa", sum := "4d5fa129fd1e55a8cd981c8da3aba4ebea300a2783873e9897972c30a5e481ff", func := "winepress/winepresslaw19.RiceSmall", spec := "riceSmall", unfollowed := true, recurses := true, apart := false, narrowed := true }
def RiceSmallUptoSaid : Prop := riceSmallUptoRow.holds Try.pinned (OpenSpec.upto riceSmallSpec)

end Rows
end Go.Proofs.Ytfdgnhfppginiaa
