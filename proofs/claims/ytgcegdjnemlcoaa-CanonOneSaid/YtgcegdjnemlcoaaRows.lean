/-
  No cell of these rows narrows 'for every input' (looked for: loops, veiled, ifaces, maps, wideKeys, modest, calm, conditions, laid).
  DERIVED. THE GIVEN ROWS OF THIS SEAT. 5 by the template 'for every input the law returns true; each argument reads behind the call as it read before'; 0 by the template 'total and deterministic' (their statements: YtgcegdjnemlcoaaTotals.lean).
  GIVEN WITH THE SEED: the statements are not yours to turn. If you find one false, say at which input.
  Laid BY PROGRAM, IN A SANDBOX (cutbox-rows.mjs): the forced cells as the released guide's own fill.sh prints them over the translation 3f8aed4b14259f99… (all of the seat's roots in one cut). By AI agents, Wed Nov 11 2026. No macro, syntax, notation, axiom, sorry.
-/
import Derived.Test.YtgcegdjnemlcoaaChecked
import GoSem.Claim
import GoSem.ClaimJoined
import GoSem.ClaimMapViews
import Derived.JoinedTies
import Derived.KernelRfl
namespace Go.Proofs.Ytgcegdjnemlcoaa
/- THE CELL 'sum', in the pinned program and in every row, IS THE sha256 OF THE DUMP (.gsa) THAT YtgcegdjnemlcoaaProg.lean LOADS. Nothing in Lean hashes anything: it is a label: what it is worth is what the hold of that sum in a sandbox is worth. -/
noncomputable def Try.pinned : Pinned := { name := "ytgcegdjnemlcoaa", sum := "3f8aed4b14259f99ee862c35f399e1bc3a504833d269754b1c5fad66ef0a889c", checked := Try.checked }
namespace Rows
def none {H : Type} : Left H := { results := [], args := [] }

/-- 'winepresslaw20.LensOf': WHATEVER THE INPUT: true; the input reads as it did. -/
def lensOfSpec : ChangeSpec := { name := "lensOf", fn := fun _ => fun
  | [d] => { results := [.lit (.bool true)], args := [d] }
  | _ => none }
def lensOfRow : OpenClaim := { program := "ytgcegdjnemlcoaa", sum := "3f8aed4b14259f99ee862c35f399e1bc3a504833d269754b1c5fad66ef0a889c", func := "winepress/winepresslaw20.LensOf", spec := "lensOf", unfollowed := true, recurses := true, plainKeys := false, apart := false }
def LensOfSaid : Prop := lensOfRow.holds Try.pinned (OpenSpec.ofChange lensOfSpec)

/-- ITS FALSE NEIGHBOUR: 'it returns false'. Refute it at one input. -/
def lensOfWrong : ChangeSpec := { name := "lensOf", fn := fun _ => fun
  | [d] => { results := [.lit (.bool false)], args := [d] }
  | _ => none }
def LensOfWrongFalsely : Prop := lensOfRow.holds Try.pinned (OpenSpec.ofChange lensOfWrong)

/-- 'winepresslaw20.LensWhole': WHATEVER THE INPUT: true; the input reads as it did. -/
def lensWholeSpec : ChangeSpec := { name := "lensWhole", fn := fun _ => fun
  | [d] => { results := [.lit (.bool true)], args := [d] }
  | _ => none }
def lensWholeRow : OpenClaim := { program := "ytgcegdjnemlcoaa", sum := "3f8aed4b14259f99ee862c35f399e1bc3a504833d269754b1c5fad66ef0a889c", func := "winepress/winepresslaw20.LensWhole", spec := "lensWhole", unfollowed := true, recurses := true, plainKeys := false, apart := false }
def LensWholeSaid : Prop := lensWholeRow.holds Try.pinned (OpenSpec.ofChange lensWholeSpec)

/-- ITS FALSE NEIGHBOUR: 'it returns false'. Refute it at one input. -/
def lensWholeWrong : ChangeSpec := { name := "lensWhole", fn := fun _ => fun
  | [d] => { results := [.lit (.bool false)], args := [d] }
  | _ => none }
def LensWholeWrongFalsely : Prop := lensWholeRow.holds Try.pinned (OpenSpec.ofChange lensWholeWrong)

/-- 'winepresslaw20.LensShorter': WHATEVER THE INPUT: true; the input reads as it did. -/
def lensShorterSpec : ChangeSpec := { name := "lensShorter", fn := fun _ => fun
  | [d] => { results := [.lit (.bool true)], args := [d] }
  | _ => none }
def lensShorterRow : OpenClaim := { program := "ytgcegdjnemlcoaa", sum := "3f8aed4b14259f99ee862c35f399e1bc3a504833d269754b1c5fad66ef0a889c", func := "winepress/winepresslaw20.LensShorter", spec := "lensShorter", unfollowed := true, recurses := true, plainKeys := false, apart := false }
def LensShorterSaid : Prop := lensShorterRow.holds Try.pinned (OpenSpec.ofChange lensShorterSpec)

/-- ITS FALSE NEIGHBOUR: 'it returns false'. Refute it at one input. -/
def lensShorterWrong : ChangeSpec := { name := "lensShorter", fn := fun _ => fun
  | [d] => { results := [.lit (.bool false)], args := [d] }
  | _ => none }
def LensShorterWrongFalsely : Prop := lensShorterRow.holds Try.pinned (OpenSpec.ofChange lensShorterWrong)

/-- 'winepresslaw21.CanonMakes': WHATEVER THE INPUT: true; the input reads as it did. -/
def canonMakesSpec : ChangeSpec := { name := "canonMakes", fn := fun _ => fun
  | [d1, d2, d3] => { results := [.lit (.bool true)], args := [d1, d2, d3] }
  | _ => none }
def canonMakesRow : OpenClaim := { program := "ytgcegdjnemlcoaa", sum := "3f8aed4b14259f99ee862c35f399e1bc3a504833d269754b1c5fad66ef0a889c", func := "winepress/winepresslaw21.CanonMakes", spec := "canonMakes", unfollowed := true, recurses := true, plainKeys := false, apart := false }
def CanonMakesSaid : Prop := canonMakesRow.holds Try.pinned (OpenSpec.ofChange canonMakesSpec)

/-- ITS FALSE NEIGHBOUR: 'it returns false'. Refute it at one input. -/
def canonMakesWrong : ChangeSpec := { name := "canonMakes", fn := fun _ => fun
  | [d1, d2, d3] => { results := [.lit (.bool false)], args := [d1, d2, d3] }
  | _ => none }
def CanonMakesWrongFalsely : Prop := canonMakesRow.holds Try.pinned (OpenSpec.ofChange canonMakesWrong)

/-- 'winepresslaw21.CanonOne': WHATEVER THE INPUT: true; the input reads as it did. -/
def canonOneSpec : ChangeSpec := { name := "canonOne", fn := fun _ => fun
  | [d1, d2] => { results := [.lit (.bool true)], args := [d1, d2] }
  | _ => none }
def canonOneRow : OpenClaim := { program := "ytgcegdjnemlcoaa", sum := "3f8aed4b14259f99ee862c35f399e1bc3a504833d269754b1c5fad66ef0a889c", func := "winepress/winepresslaw21.CanonOne", spec := "canonOne", unfollowed := true, recurses := true, plainKeys := false, apart := false }
def CanonOneSaid : Prop := canonOneRow.holds Try.pinned (OpenSpec.ofChange canonOneSpec)

/-- ITS FALSE NEIGHBOUR: 'it returns false'. Refute it at one input. -/
def canonOneWrong : ChangeSpec := { name := "canonOne", fn := fun _ => fun
  | [d1, d2] => { results := [.lit (.bool false)], args := [d1, d2] }
  | _ => none }
def CanonOneWrongFalsely : Prop := canonOneRow.holds Try.pinned (OpenSpec.ofChange canonOneWrong)

/- THE SECOND FORM. 'bulk': how many values and letters a reading holds, each counted each time it is reached (what is shared counts as often as it is met; a slice's spare places count too). A statement '..UptoSaid' is the law's where the arguments, and the package variables that the reading takes, are together of bulk at most 1048576: NARROWER than '..Said'. Prove '..Said' where nothing that the law and all that it calls make is longer than what came in: it says more and counts as full. Else prove '..UptoSaid'. A law counts once. -/
mutual
def uptoBulk {H : Type} : DataW H → Nat
  | .lit (.string bytes) => bytes.length + 1
  | .lit _ => 1
  | .nil => 1
  | .ptr d => uptoBulk d + 1
  | .slice elems spare => uptoBulkAll elems + uptoBulkAll spare + 1
  | .agg parts => uptoBulkAll parts + 1
  | .iface _ d => uptoBulk d + 1
  | .map entries => uptoBulkEntries entries + 1
  | .held _ => 1
def uptoBulkAll {H : Type} : List (DataW H) → Nat
  | [] => 0
  | d :: r => uptoBulk d + uptoBulkAll r
def uptoBulkEntries {H : Type} : List (Lit × DataW H) → Nat
  | [] => 0
  | x :: r => uptoBulkEntry x + uptoBulkEntries r
def uptoBulkEntry {H : Type} : Lit × DataW H → Nat
  | (.string bytes, d) => bytes.length + uptoBulk d + 1
  | (_, d) => uptoBulk d + 1
 end
def uptoSmall : (H : Type) → List (DataW H) → Bool := fun _ ds => decide (uptoBulkAll ds ≤ 1048576)
def OpenSpec.upto (s : _root_.Go.ChangeSpec) : _root_.Go.OpenSpec := { _root_.Go.OpenSpec.ofChange s with cond := some uptoSmall }

/-- 'winepresslaw20.LensOf', WHERE WHAT IT READS IS OF BULK AT MOST 1048576: true; the input reads as it did. -/
def lensOfUptoRow : OpenClaim := { program := "ytgcegdjnemlcoaa", sum := "3f8aed4b14259f99ee862c35f399e1bc3a504833d269754b1c5fad66ef0a889c", func := "winepress/winepresslaw20.LensOf", spec := "lensOf", unfollowed := true, recurses := true, plainKeys := false, apart := false, narrowed := true }
def LensOfUptoSaid : Prop := lensOfUptoRow.holds Try.pinned (OpenSpec.upto lensOfSpec)

/-- 'winepresslaw20.LensWhole', WHERE WHAT IT READS IS OF BULK AT MOST 1048576: true; the input reads as it did. -/
def lensWholeUptoRow : OpenClaim := { program := "ytgcegdjnemlcoaa", sum := "3f8aed4b14259f99ee862c35f399e1bc3a504833d269754b1c5fad66ef0a889c", func := "winepress/winepresslaw20.LensWhole", spec := "lensWhole", unfollowed := true, recurses := true, plainKeys := false, apart := false, narrowed := true }
def LensWholeUptoSaid : Prop := lensWholeUptoRow.holds Try.pinned (OpenSpec.upto lensWholeSpec)

/-- 'winepresslaw20.LensShorter', WHERE WHAT IT READS IS OF BULK AT MOST 1048576: true; the input reads as it did. -/
def lensShorterUptoRow : OpenClaim := { program := "ytgcegdjnemlcoaa", sum := "3f8aed4b14259f99ee862c35f399e1bc3a504833d269754b1c5fad66ef0a889c", func := "winepress/winepresslaw20.LensShorter", spec := "lensShorter", unfollowed := true, recurses := true, plainKeys := false, apart := false, narrowed := true }
def LensShorterUptoSaid : Prop := lensShorterUptoRow.holds Try.pinned (OpenSpec.upto lensShorterSpec)

/-- 'winepresslaw21.CanonMakes', WHERE WHAT IT READS IS OF BULK AT MOST 1048576: true; the input reads as it did. -/
def canonMakesUptoRow : OpenClaim := { program := "ytgcegdjnemlcoaa", sum := "3f8aed4b14259f99ee862c35f399e1bc3a504833d269754b1c5fad66ef0a889c", func := "winepress/winepresslaw21.CanonMakes", spec := "canonMakes", unfollowed := true, recurses := true, plainKeys := false, apart := false, narrowed := true }
def CanonMakesUptoSaid : Prop := canonMakesUptoRow.holds Try.pinned (OpenSpec.upto canonMakesSpec)

/-- 'winepresslaw21.CanonOne', WHERE WHAT IT READS IS OF BULK AT MOST 1048576: true; the input reads as it did. -/
def canonOneUptoRow : OpenClaim := { program := "ytgcegdjnemlcoaa", sum := "3f8aed4b14259f99ee862c35f399e1bc3a504833d269754b1c5fad66ef0a889c", func := "winepress/winepresslaw21.CanonOne", spec := "canonOne", unfollowed := true, recurses := true, plainKeys := false, apart := false, narrowed := true }
def CanonOneUptoSaid : Prop := canonOneUptoRow.holds Try.pinned (OpenSpec.upto canonOneSpec)

end Rows
end Go.Proofs.Ytgcegdjnemlcoaa
