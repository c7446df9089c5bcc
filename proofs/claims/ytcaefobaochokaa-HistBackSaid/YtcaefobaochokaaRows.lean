/-
  No cell of these rows narrows 'for every input' (looked for: loops, veiled, ifaces, maps, wideKeys, modest, calm, conditions, laid).
  DERIVED. THE GIVEN ROWS OF THIS SEAT. 3 by the template 'for every input the law returns true; each argument reads behind the call as it read before'; 0 by the template 'total and deterministic' (their statements: YtcaefobaochokaaTotals.lean).
  GIVEN WITH THE SEED: the statements are not yours to turn. If you find one false, say at which input.
  Laid BY PROGRAM, IN A SANDBOX (cutbox-rows.mjs): the forced cells as the released guide's own fill.sh prints them over the translation 522fbf6b8a800932… (all of the seat's roots in one cut). By AI agents, Wed Nov 11 2026. No macro, syntax, notation, axiom, sorry.
-/
import Derived.Test.YtcaefobaochokaaChecked
import GoSem.Claim
import GoSem.ClaimJoined
import GoSem.ClaimMapViews
import Derived.JoinedTies
import Derived.KernelRfl
namespace Go.Proofs.Ytcaefobaochokaa
/- THE CELL 'sum', in the pinned program and in every row, IS THE sha256 OF THE DUMP (.gsa) THAT YtcaefobaochokaaProg.lean LOADS. Nothing in Lean hashes anything: it is a label: what it is worth is what the hold of that sum in a sandbox is worth. -/
noncomputable def Try.pinned : Pinned := { name := "ytcaefobaochokaa", sum := "522fbf6b8a8009324bf2673784e29e96f405aa7a884a0f548d664923cf256fcd", checked := Try.checked }
namespace Rows
def none {H : Type} : Left H := { results := [], args := [] }

/-- 'winepresslaw16.HistPuts': WHATEVER THE INPUT: true; the input reads as it did. -/
def histPutsSpec : ChangeSpec := { name := "histPuts", fn := fun _ => fun
  | [d] => { results := [.lit (.bool true)], args := [d] }
  | _ => none }
def histPutsRow : OpenClaim := { program := "ytcaefobaochokaa", sum := "522fbf6b8a8009324bf2673784e29e96f405aa7a884a0f548d664923cf256fcd", func := "winepress/winepresslaw16.HistPuts", spec := "histPuts", unfollowed := true, recurses := true, apart := false }
def HistPutsSaid : Prop := histPutsRow.holds Try.pinned (OpenSpec.ofChange histPutsSpec)

/-- ITS FALSE NEIGHBOUR: 'it returns false'. Refute it at one input. -/
def histPutsWrong : ChangeSpec := { name := "histPuts", fn := fun _ => fun
  | [d] => { results := [.lit (.bool false)], args := [d] }
  | _ => none }
def HistPutsWrongFalsely : Prop := histPutsRow.holds Try.pinned (OpenSpec.ofChange histPutsWrong)

/-- 'winepresslaw16.HistGets': WHATEVER THE INPUT: true; the input reads as it did. -/
def histGetsSpec : ChangeSpec := { name := "histGets", fn := fun _ => fun
  | [d1, d2] => { results := [.lit (.bool true)], args := [d1, d2] }
  | _ => none }
def histGetsRow : OpenClaim := { program := "ytcaefobaochokaa", sum := "522fbf6b8a8009324bf2673784e29e96f405aa7a884a0f548d664923cf256fcd", func := "winepress/winepresslaw16.HistGets", spec := "histGets", unfollowed := true, recurses := true, apart := false }
def HistGetsSaid : Prop := histGetsRow.holds Try.pinned (OpenSpec.ofChange histGetsSpec)

/-- ITS FALSE NEIGHBOUR: 'it returns false'. Refute it at one input. -/
def histGetsWrong : ChangeSpec := { name := "histGets", fn := fun _ => fun
  | [d1, d2] => { results := [.lit (.bool false)], args := [d1, d2] }
  | _ => none }
def HistGetsWrongFalsely : Prop := histGetsRow.holds Try.pinned (OpenSpec.ofChange histGetsWrong)

/-- 'winepresslaw16.HistBack': WHATEVER THE INPUT: true; the input reads as it did. -/
def histBackSpec : ChangeSpec := { name := "histBack", fn := fun _ => fun
  | [d1, d2, d3] => { results := [.lit (.bool true)], args := [d1, d2, d3] }
  | _ => none }
def histBackRow : OpenClaim := { program := "ytcaefobaochokaa", sum := "522fbf6b8a8009324bf2673784e29e96f405aa7a884a0f548d664923cf256fcd", func := "winepress/winepresslaw16.HistBack", spec := "histBack", unfollowed := true, recurses := true, apart := false }
def HistBackSaid : Prop := histBackRow.holds Try.pinned (OpenSpec.ofChange histBackSpec)

/-- ITS FALSE NEIGHBOUR: 'it returns false'. Refute it at one input. -/
def histBackWrong : ChangeSpec := { name := "histBack", fn := fun _ => fun
  | [d1, d2, d3] => { results := [.lit (.bool false)], args := [d1, d2, d3] }
  | _ => none }
def HistBackWrongFalsely : Prop := histBackRow.holds Try.pinned (OpenSpec.ofChange histBackWrong)

/- THE SECOND FORM. 'bulk': how many values and letters a reading holds, each counted each time it is reached (what is shared counts as often as it is met; a slice's spare places count too). A statement '..UptoSaid' is the law's where the arguments, and the package variables that the reading takes, are together of bulk at most 1048576: NARROWER than '..Said'. Prove '..Said' where nothing that the law and all that it calls make is longer than what came in: it says more and counts as full. Else prove '..UptoSaid'. A law counts once. -/
mutual
def uptoBulk {H : Type} : DataW H → Nat
  | .lit (.string bytes) => bytes.length + 1
  | .lit _ => 1
  | .nil => 1
  | .ptr d => uptoBulk d + 1
  | .slice elems spare => uptoBulkAll elems + uptoBulkAll spare + 1
  | .agg parts => uptoBulkAll parts + 1
  | .iface _ d => uptoBulk d + 1
  | .map entries => uptoBulkEntries entries + 1
  | .held _ => 1
def uptoBulkAll {H : Type} : List (DataW H) → Nat
  | [] => 0
  | d :: r => uptoBulk d + uptoBulkAll r
def uptoBulkEntries {H : Type} : List (Lit × DataW H) → Nat
  | [] => 0
  | x :: r => uptoBulkEntry x + uptoBulkEntries r
def uptoBulkEntry {H : Type} : Lit × DataW H → Nat
  | (.string bytes, d) => bytes.length + uptoBulk d + 1
  | (_, d) => uptoBulk d + 1
 end
def uptoSmall : (H : Type) → List (DataW H) → Bool := fun _ ds => decide (uptoBulkAll ds ≤ 1048576)
def OpenSpec.upto (s : _root_.Go.ChangeSpec) : _root_.Go.OpenSpec := { _root_.Go.OpenSpec.ofChange s with cond := some uptoSmall }

/-- 'winepresslaw16.HistPuts', WHERE WHAT IT READS IS OF BULK AT MOST 1048576: true; the input reads as it did. -/
def histPutsUptoRow : OpenClaim := { program := "ytcaefobaochokaa", sum := "522fbf6b8a8009324bf2673784e29e96f405aa7a884a0f548d664923cf256fcd", func := "winepress/winepresslaw16.HistPuts", spec := "histPuts", unfollowed := true, recurses := true, apart := false, narrowed := true }
def HistPutsUptoSaid : Prop := histPutsUptoRow.holds Try.pinned (OpenSpec.upto histPutsSpec)

/-- 'winepresslaw16.HistGets', WHERE WHAT IT READS IS OF BULK AT MOST 1048576: true; the input reads as it did. -/
def histGetsUptoRow : OpenClaim := { program := "ytcaefobaochokaa", sum := "522fbf6b8a8009324bf2673784e29e96f405aa7a884a0f548d664923cf256fcd", func := "winepress/winepresslaw16.HistGets", spec := "histGets", unfollowed := true, recurses := true, apart := false, narrowed := true }
def HistGetsUptoSaid : Prop := histGetsUptoRow.holds Try.pinned (OpenSpec.upto histGetsSpec)

/-- 'winepresslaw16.HistBack', WHERE WHAT IT READS IS OF BULK AT MOST 1048576: true; the input reads as it did. -/
def histBackUptoRow : OpenClaim := { program := "ytcaefobaochokaa", sum := "522fbf6b8a8009324bf2673784e29e96f405aa7a884a0f548d664923cf256fcd", func := "winepress/winepresslaw16.HistBack", spec := "histBack", unfollowed := true, recurses := true, apart := false, narrowed := true }
def HistBackUptoSaid : Prop := histBackUptoRow.holds Try.pinned (OpenSpec.upto histBackSpec)

end Rows
end Go.Proofs.Ytcaefobaochokaa
