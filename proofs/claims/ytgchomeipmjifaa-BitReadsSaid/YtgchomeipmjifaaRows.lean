/-
  No cell of these rows narrows 'for every input' (looked for: loops, veiled, ifaces, maps, wideKeys, modest, calm, conditions, laid).
  DERIVED. THE GIVEN ROWS OF THIS SEAT. 8 by the template 'for every input the law returns true; each argument reads behind the call as it read before'; 0 by the template 'total and deterministic' (their statements: YtgchomeipmjifaaTotals.lean).
  GIVEN WITH THE SEED: the statements are not yours to turn. If you find one false, say at which input.
  Laid BY PROGRAM, IN A SANDBOX (cutbox-rows.mjs): the forced cells as the released guide's own fill.sh prints them over the translation 58bcb8835fd01924… (all of the seat's roots in one cut). By AI agents, Wed Nov 11 2026. No macro, syntax, notation, axiom, sorry.
-/
import Derived.Test.YtgchomeipmjifaaChecked
import GoSem.Claim
import GoSem.ClaimJoined
import GoSem.ClaimMapViews
import Derived.JoinedTies
import Derived.KernelRfl
namespace Go.Proofs.Ytgchomeipmjifaa
/- THE CELL 'sum', in the pinned program and in every row, IS THE sha256 OF THE DUMP (.gsa) THAT YtgchomeipmjifaaProg.lean LOADS. Nothing in Lean hashes anything: it is a label: what it is worth is what the hold of that sum in a sandbox is worth. -/
noncomputable def Try.pinned : Pinned := { name := "ytgchomeipmjifaa", sum := "58bcb8835fd019243e9245b37d59eabf173084bef9010873aef294ff5b2bd1a8", checked := Try.checked }
namespace Rows
def none {H : Type} : Left H := { results := [], args := [] }

/-- 'winepresslaw01.BitWrites': WHATEVER THE INPUT: true; the input reads as it did. -/
def bitWritesSpec : ChangeSpec := { name := "bitWrites", fn := fun _ => fun
  | [d] => { results := [.lit (.bool true)], args := [d] }
  | _ => none }
def bitWritesRow : OpenClaim := { program := "ytgchomeipmjifaa", sum := "58bcb8835fd019243e9245b37d59eabf173084bef9010873aef294ff5b2bd1a8", func := "winepress/winepresslaw01.BitWrites", spec := "bitWrites", unfollowed := true, recurses := true, apart := false }
def BitWritesSaid : Prop := bitWritesRow.holds Try.pinned (OpenSpec.ofChange bitWritesSpec)

/-- ITS FALSE NEIGHBOUR: 'it returns false'. Refute it at one input. -/
def bitWritesWrong : ChangeSpec := { name := "bitWrites", fn := fun _ => fun
  | [d] => { results := [.lit (.bool false)], args := [d] }
  | _ => none }
def BitWritesWrongFalsely : Prop := bitWritesRow.holds Try.pinned (OpenSpec.ofChange bitWritesWrong)

/-- 'winepresslaw01.BitReads': WHATEVER THE INPUT: true; the input reads as it did. -/
def bitReadsSpec : ChangeSpec := { name := "bitReads", fn := fun _ => fun
  | [d1, d2] => { results := [.lit (.bool true)], args := [d1, d2] }
  | _ => none }
def bitReadsRow : OpenClaim := { program := "ytgchomeipmjifaa", sum := "58bcb8835fd019243e9245b37d59eabf173084bef9010873aef294ff5b2bd1a8", func := "winepress/winepresslaw01.BitReads", spec := "bitReads", unfollowed := true, recurses := true, apart := false }
def BitReadsSaid : Prop := bitReadsRow.holds Try.pinned (OpenSpec.ofChange bitReadsSpec)

/-- ITS FALSE NEIGHBOUR: 'it returns false'. Refute it at one input. -/
def bitReadsWrong : ChangeSpec := { name := "bitReads", fn := fun _ => fun
  | [d1, d2] => { results := [.lit (.bool false)], args := [d1, d2] }
  | _ => none }
def BitReadsWrongFalsely : Prop := bitReadsRow.holds Try.pinned (OpenSpec.ofChange bitReadsWrong)

/-- 'winepresslaw01.BitBack': WHATEVER THE INPUT: true; the input reads as it did. -/
def bitBackSpec : ChangeSpec := { name := "bitBack", fn := fun _ => fun
  | [d] => { results := [.lit (.bool true)], args := [d] }
  | _ => none }
def bitBackRow : OpenClaim := { program := "ytgchomeipmjifaa", sum := "58bcb8835fd019243e9245b37d59eabf173084bef9010873aef294ff5b2bd1a8", func := "winepress/winepresslaw01.BitBack", spec := "bitBack", unfollowed := true, recurses := true, apart := false }
def BitBackSaid : Prop := bitBackRow.holds Try.pinned (OpenSpec.ofChange bitBackSpec)

/-- ITS FALSE NEIGHBOUR: 'it returns false'. Refute it at one input. -/
def bitBackWrong : ChangeSpec := { name := "bitBack", fn := fun _ => fun
  | [d] => { results := [.lit (.bool false)], args := [d] }
  | _ => none }
def BitBackWrongFalsely : Prop := bitBackRow.holds Try.pinned (OpenSpec.ofChange bitBackWrong)

/-- 'winepresslaw01.BitNil': WHATEVER THE INPUT: true; the input reads as it did. -/
def bitNilSpec : ChangeSpec := { name := "bitNil", fn := fun _ => fun
  | [d1, d2] => { results := [.lit (.bool true)], args := [d1, d2] }
  | _ => none }
def bitNilRow : OpenClaim := { program := "ytgchomeipmjifaa", sum := "58bcb8835fd019243e9245b37d59eabf173084bef9010873aef294ff5b2bd1a8", func := "winepress/winepresslaw01.BitNil", spec := "bitNil", unfollowed := true, recurses := true, apart := false }
def BitNilSaid : Prop := bitNilRow.holds Try.pinned (OpenSpec.ofChange bitNilSpec)

/-- ITS FALSE NEIGHBOUR: 'it returns false'. Refute it at one input. -/
def bitNilWrong : ChangeSpec := { name := "bitNil", fn := fun _ => fun
  | [d1, d2] => { results := [.lit (.bool false)], args := [d1, d2] }
  | _ => none }
def BitNilWrongFalsely : Prop := bitNilRow.holds Try.pinned (OpenSpec.ofChange bitNilWrong)

/-- 'winepresslaw02.LebPuts': WHATEVER THE INPUT: true; the input reads as it did. -/
def lebPutsSpec : ChangeSpec := { name := "lebPuts", fn := fun _ => fun
  | [d1, d2, d3] => { results := [.lit (.bool true)], args := [d1, d2, d3] }
  | _ => none }
def lebPutsRow : OpenClaim := { program := "ytgchomeipmjifaa", sum := "58bcb8835fd019243e9245b37d59eabf173084bef9010873aef294ff5b2bd1a8", func := "winepress/winepresslaw02.LebPuts", spec := "lebPuts", apart := false }
def LebPutsSaid : Prop := lebPutsRow.holds Try.pinned (OpenSpec.ofChange lebPutsSpec)

/-- ITS FALSE NEIGHBOUR: 'it returns false'. Refute it at one input. -/
def lebPutsWrong : ChangeSpec := { name := "lebPuts", fn := fun _ => fun
  | [d1, d2, d3] => { results := [.lit (.bool false)], args := [d1, d2, d3] }
  | _ => none }
def LebPutsWrongFalsely : Prop := lebPutsRow.holds Try.pinned (OpenSpec.ofChange lebPutsWrong)

/-- 'winepresslaw02.LebGets': WHATEVER THE INPUT: true; the input reads as it did. -/
def lebGetsSpec : ChangeSpec := { name := "lebGets", fn := fun _ => fun
  | [d] => { results := [.lit (.bool true)], args := [d] }
  | _ => none }
def lebGetsRow : OpenClaim := { program := "ytgchomeipmjifaa", sum := "58bcb8835fd019243e9245b37d59eabf173084bef9010873aef294ff5b2bd1a8", func := "winepress/winepresslaw02.LebGets", spec := "lebGets", apart := false }
def LebGetsSaid : Prop := lebGetsRow.holds Try.pinned (OpenSpec.ofChange lebGetsSpec)

/-- ITS FALSE NEIGHBOUR: 'it returns false'. Refute it at one input. -/
def lebGetsWrong : ChangeSpec := { name := "lebGets", fn := fun _ => fun
  | [d] => { results := [.lit (.bool false)], args := [d] }
  | _ => none }
def LebGetsWrongFalsely : Prop := lebGetsRow.holds Try.pinned (OpenSpec.ofChange lebGetsWrong)

/-- 'winepresslaw02.LebBack': WHATEVER THE INPUT: true; the input reads as it did. -/
def lebBackSpec : ChangeSpec := { name := "lebBack", fn := fun _ => fun
  | [d1, d2, d3] => { results := [.lit (.bool true)], args := [d1, d2, d3] }
  | _ => none }
def lebBackRow : OpenClaim := { program := "ytgchomeipmjifaa", sum := "58bcb8835fd019243e9245b37d59eabf173084bef9010873aef294ff5b2bd1a8", func := "winepress/winepresslaw02.LebBack", spec := "lebBack", apart := false }
def LebBackSaid : Prop := lebBackRow.holds Try.pinned (OpenSpec.ofChange lebBackSpec)

/-- ITS FALSE NEIGHBOUR: 'it returns false'. Refute it at one input. -/
def lebBackWrong : ChangeSpec := { name := "lebBack", fn := fun _ => fun
  | [d1, d2, d3] => { results := [.lit (.bool false)], args := [d1, d2, d3] }
  | _ => none }
def LebBackWrongFalsely : Prop := lebBackRow.holds Try.pinned (OpenSpec.ofChange lebBackWrong)

/-- 'winepresslaw02.LebOne': WHATEVER THE INPUT: true; the input reads as it did. -/
def lebOneSpec : ChangeSpec := { name := "lebOne", fn := fun _ => fun
  | [d] => { results := [.lit (.bool true)], args := [d] }
  | _ => none }
def lebOneRow : OpenClaim := { program := "ytgchomeipmjifaa", sum := "58bcb8835fd019243e9245b37d59eabf173084bef9010873aef294ff5b2bd1a8", func := "winepress/winepresslaw02.LebOne", spec := "lebOne", apart := false }
def LebOneSaid : Prop := lebOneRow.holds Try.pinned (OpenSpec.ofChange lebOneSpec)

/-- ITS FALSE NEIGHBOUR: 'it returns false'. Refute it at one input. -/
def lebOneWrong : ChangeSpec := { name := "lebOne", fn := fun _ => fun
  | [d] => { results := [.lit (.bool false)], args := [d] }
  | _ => none }
def LebOneWrongFalsely : Prop := lebOneRow.holds Try.pinned (OpenSpec.ofChange lebOneWrong)

/- THE SECOND FORM. 'bulk': how many values and letters a reading holds, each counted each time it is reached (what is shared counts as often as it is met; a slice's spare places count too). A statement '..UptoSaid' is the law's where the arguments, and the package variables that the reading takes, are together of bulk at most 1048576: NARROWER than '..Said'. Prove '..Said' where nothing that the law and all that it calls make is longer than what came in: it says more and counts as full. Else prove '..UptoSaid'. A law counts once. -/
mutual
def uptoBulk {H : Type} : DataW H → Nat
  | .lit (.string bytes) => bytes.length + 1
  | .lit _ => 1
  | .nil => 1
  | .ptr d => uptoBulk d + 1
  | .slice elems spare => uptoBulkAll elems + uptoBulkAll spare + 1
  | .agg parts => uptoBulkAll parts + 1
  | .iface _ d => uptoBulk d + 1
  | .map entries => uptoBulkEntries entries + 1
  | .held _ => 1
def uptoBulkAll {H : Type} : List (DataW H) → Nat
  | [] => 0
  | d :: r => uptoBulk d + uptoBulkAll r
def uptoBulkEntries {H : Type} : List (Lit × DataW H) → Nat
  | [] => 0
  | x :: r => uptoBulkEntry x + uptoBulkEntries r
def uptoBulkEntry {H : Type} : Lit × DataW H → Nat
  | (.string bytes, d) => bytes.length + uptoBulk d + 1
  | (_, d) => uptoBulk d + 1
 end
def uptoSmall : (H : Type) → List (DataW H) → Bool := fun _ ds => decide (uptoBulkAll ds ≤ 1048576)
def OpenSpec.upto (s : _root_.Go.ChangeSpec) : _root_.Go.OpenSpec := { _root_.Go.OpenSpec.ofChange s with cond := some uptoSmall }

/-- 'winepresslaw01.BitWrites', WHERE WHAT IT READS IS OF BULK AT MOST 1048576: true; the input reads as it did. -/
def bitWritesUptoRow : OpenClaim := { program := "ytgchomeipmjifaa", sum := "58bcb8835fd019243e9245b37d59eabf173084bef9010873aef294ff5b2bd1a8", func := "winepress/winepresslaw01.BitWrites", spec := "bitWrites", unfollowed := true, recurses := true, apart := false, narrowed := true }
def BitWritesUptoSaid : Prop := bitWritesUptoRow.holds Try.pinned (OpenSpec.upto bitWritesSpec)

/-- 'winepresslaw01.BitReads', WHERE WHAT IT READS IS OF BULK AT MOST 1048576: true; the input reads as it did. -/
def bitReadsUptoRow : OpenClaim := { program := "ytgchomeipmjifaa", sum := "58bcb8835fd019243e9245b37d59eabf173084bef9010873aef294ff5b2bd1a8", func := "winepress/winepresslaw01.BitReads", spec := "bitReads", unfollowed := true, recurses := true, apart := false, narrowed := true }
def BitReadsUptoSaid : Prop := bitReadsUptoRow.holds Try.pinned (OpenSpec.upto bitReadsSpec)

/-- 'winepresslaw01.BitBack', WHERE WHAT IT READS IS OF BULK AT MOST 1048576: true; the input reads as it did. -/
def bitBackUptoRow : OpenClaim := { program := "ytgchomeipmjifaa", sum := "58bcb8835fd019243e9245b37d59eabf173084bef9010873aef294ff5b2bd1a8", func := "winepress/winepresslaw01.BitBack", spec := "bitBack", unfollowed := true, recurses := true, apart := false, narrowed := true }
def BitBackUptoSaid : Prop := bitBackUptoRow.holds Try.pinned (OpenSpec.upto bitBackSpec)

/-- 'winepresslaw01.BitNil', WHERE WHAT IT READS IS OF BULK AT MOST 1048576: true; the input reads as it did. -/
def bitNilUptoRow : OpenClaim := { program := "ytgchomeipmjifaa", sum := "58bcb8835fd019243e9245b37d59eabf173084bef9010873aef294ff5b2bd1a8", func := "winepress/winepresslaw01.BitNil", spec := "bitNil", unfollowed := true, recurses := true, apart := false, narrowed := true }
def BitNilUptoSaid : Prop := bitNilUptoRow.holds Try.pinned (OpenSpec.upto bitNilSpec)

/-- 'winepresslaw02.LebPuts', WHERE WHAT IT READS IS OF BULK AT MOST 1048576: true; the input reads as it did. -/
def lebPutsUptoRow : OpenClaim := { program := "ytgchomeipmjifaa", sum := "58bcb8835fd019243e9245b37d59eabf173084bef9010873aef294ff5b2bd1a8", func := "winepress/winepresslaw02.LebPuts", spec := "lebPuts", apart := false, narrowed := true }
def LebPutsUptoSaid : Prop := lebPutsUptoRow.holds Try.pinned (OpenSpec.upto lebPutsSpec)

/-- 'winepresslaw02.LebGets', WHERE WHAT IT READS IS OF BULK AT MOST 1048576: true; the input reads as it did. -/
def lebGetsUptoRow : OpenClaim := { program := "ytgchomeipmjifaa", sum := "58bcb8835fd019243e9245b37d59eabf173084bef9010873aef294ff5b2bd1a8", func := "winepress/winepresslaw02.LebGets", spec := "lebGets", apart := false, narrowed := true }
def LebGetsUptoSaid : Prop := lebGetsUptoRow.holds Try.pinned (OpenSpec.upto lebGetsSpec)

/-- 'winepresslaw02.LebBack', WHERE WHAT IT READS IS OF BULK AT MOST 1048576: true; the input reads as it did. -/
def lebBackUptoRow : OpenClaim := { program := "ytgchomeipmjifaa", sum := "58bcb8835fd019243e9245b37d59eabf173084bef9010873aef294ff5b2bd1a8", func := "winepress/winepresslaw02.LebBack", spec := "lebBack", apart := false, narrowed := true }
def LebBackUptoSaid : Prop := lebBackUptoRow.holds Try.pinned (OpenSpec.upto lebBackSpec)

/-- 'winepresslaw02.LebOne', WHERE WHAT IT READS IS OF BULK AT MOST 1048576: true; the input reads as it did. -/
def lebOneUptoRow : OpenClaim := { program := "ytgchomeipmjifaa", sum := "58bcb8835fd019243e9245b37d59eabf173084bef9010873aef294ff5b2bd1a8", func := "winepress/winepresslaw02.LebOne", spec := "lebOne", apart := false, narrowed := true }
def LebOneUptoSaid : Prop := lebOneUptoRow.holds Try.pinned (OpenSpec.upto lebOneSpec)

end Rows
end Go.Proofs.Ytgchomeipmjifaa
