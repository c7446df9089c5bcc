/-
  No cell of these rows narrows 'for every input' (looked for: loops, veiled, ifaces, maps, wideKeys, modest, calm, conditions, laid).
  DERIVED. THE GIVEN ROWS OF THIS SEAT. 4 by the template 'for every input the law returns true; each argument reads behind the call as it read before'; 0 by the template 'total and deterministic' (their statements: YtcilehndnbnmkaaTotals.lean).
  GIVEN WITH THE SEED: the statements are not yours to turn. If you find one false, say at which input.
  Laid BY PROGRAM, IN A SANDBOX (cutbox-rows.mjs): the forced cells as the released guide's own fill.sh prints them over the translation 5e9ec3f45e551621… (all of the seat's roots in one cut). By AI agents, Wed Nov 11 2026. No macro, syntax, notation, axiom, sorry.
-/
import Derived.Test.YtcilehndnbnmkaaChecked
import GoSem.Claim
import GoSem.ClaimJoined
import GoSem.ClaimMapViews
import Derived.JoinedTies
import Derived.KernelRfl
namespace Go.Proofs.Ytcilehndnbnmkaa
/- THE CELL 'sum', in the pinned program and in every row, IS THE sha256 OF THE DUMP (.gsa) THAT YtcilehndnbnmkaaProg.lean LOADS. Nothing in Lean hashes anything: it is a label: what it is worth is what the hold of that sum in a sandbox is worth. -/
noncomputable def Try.pinned : Pinned := { name := "ytcilehndnbnmkaa", sum := "5e9ec3f45e5516215b86eba6f6047b3039261986312ab270583e0c4767a00cd6", checked := Try.checked }
namespace Rows
def none {H : Type} : Left H := { results := [], args := [] }

/-- 'winepresslaw23.CtxDoes': WHATEVER THE INPUT: true; the input reads as it did. -/
def ctxDoesSpec : ChangeSpec := { name := "ctxDoes", fn := fun _ => fun
  | [d1, d2, d3] => { results := [.lit (.bool true)], args := [d1, d2, d3] }
  | _ => none }
def ctxDoesRow : OpenClaim := { program := "ytcilehndnbnmkaa", sum := "5e9ec3f45e5516215b86eba6f6047b3039261986312ab270583e0c4767a00cd6", func := "winepress/winepresslaw23.CtxDoes", spec := "ctxDoes", apart := false }
def CtxDoesSaid : Prop := ctxDoesRow.holds Try.pinned (OpenSpec.ofChange ctxDoesSpec)

/-- ITS FALSE NEIGHBOUR: 'it returns false'. Refute it at one input. -/
def ctxDoesWrong : ChangeSpec := { name := "ctxDoes", fn := fun _ => fun
  | [d1, d2, d3] => { results := [.lit (.bool false)], args := [d1, d2, d3] }
  | _ => none }
def CtxDoesWrongFalsely : Prop := ctxDoesRow.holds Try.pinned (OpenSpec.ofChange ctxDoesWrong)

/-- 'winepresslaw23.CtxHolds': WHATEVER THE INPUT: true; the input reads as it did. -/
def ctxHoldsSpec : ChangeSpec := { name := "ctxHolds", fn := fun _ => fun
  | [d1, d2] => { results := [.lit (.bool true)], args := [d1, d2] }
  | _ => none }
def ctxHoldsRow : OpenClaim := { program := "ytcilehndnbnmkaa", sum := "5e9ec3f45e5516215b86eba6f6047b3039261986312ab270583e0c4767a00cd6", func := "winepress/winepresslaw23.CtxHolds", spec := "ctxHolds", apart := false }
def CtxHoldsSaid : Prop := ctxHoldsRow.holds Try.pinned (OpenSpec.ofChange ctxHoldsSpec)

/-- ITS FALSE NEIGHBOUR: 'it returns false'. Refute it at one input. -/
def ctxHoldsWrong : ChangeSpec := { name := "ctxHolds", fn := fun _ => fun
  | [d1, d2] => { results := [.lit (.bool false)], args := [d1, d2] }
  | _ => none }
def CtxHoldsWrongFalsely : Prop := ctxHoldsRow.holds Try.pinned (OpenSpec.ofChange ctxHoldsWrong)

/-- 'winepresslaw24.MixDoes': WHATEVER THE INPUT: true; the input reads as it did. -/
def mixDoesSpec : ChangeSpec := { name := "mixDoes", fn := fun _ => fun
  | [d1, d2] => { results := [.lit (.bool true)], args := [d1, d2] }
  | _ => none }
def mixDoesRow : OpenClaim := { program := "ytcilehndnbnmkaa", sum := "5e9ec3f45e5516215b86eba6f6047b3039261986312ab270583e0c4767a00cd6", func := "winepress/winepresslaw24.MixDoes", spec := "mixDoes", apart := false }
def MixDoesSaid : Prop := mixDoesRow.holds Try.pinned (OpenSpec.ofChange mixDoesSpec)

/-- ITS FALSE NEIGHBOUR: 'it returns false'. Refute it at one input. -/
def mixDoesWrong : ChangeSpec := { name := "mixDoes", fn := fun _ => fun
  | [d1, d2] => { results := [.lit (.bool false)], args := [d1, d2] }
  | _ => none }
def MixDoesWrongFalsely : Prop := mixDoesRow.holds Try.pinned (OpenSpec.ofChange mixDoesWrong)

/-- 'winepresslaw24.MixBetween': WHATEVER THE INPUT: true; the input reads as it did. -/
def mixBetweenSpec : ChangeSpec := { name := "mixBetween", fn := fun _ => fun
  | [d1, d2] => { results := [.lit (.bool true)], args := [d1, d2] }
  | _ => none }
def mixBetweenRow : OpenClaim := { program := "ytcilehndnbnmkaa", sum := "5e9ec3f45e5516215b86eba6f6047b3039261986312ab270583e0c4767a00cd6", func := "winepress/winepresslaw24.MixBetween", spec := "mixBetween", apart := false }
def MixBetweenSaid : Prop := mixBetweenRow.holds Try.pinned (OpenSpec.ofChange mixBetweenSpec)

/-- ITS FALSE NEIGHBOUR: 'it returns false'. Refute it at one input. -/
def mixBetweenWrong : ChangeSpec := { name := "mixBetween", fn := fun _ => fun
  | [d1, d2] => { results := [.lit (.bool false)], args := [d1, d2] }
  | _ => none }
def MixBetweenWrongFalsely : Prop := mixBetweenRow.holds Try.pinned (OpenSpec.ofChange mixBetweenWrong)

/- THE SECOND FORM. 'bulk': how many values and letters a reading holds, each counted each time it is reached (what is shared counts as often as it is met; a slice's spare places count too). A statement '..UptoSaid' is the law's where the arguments, and the package variables that the reading takes, are together of bulk at most 1048576: NARROWER than '..Said'. Prove '..Said' where nothing that the law and all that it calls make is longer than what came in: it says more and counts as full. Else prove '..UptoSaid'. A law counts once. -/
mutual
def uptoBulk {H : Type} : DataW H → Nat
  | .lit (.string bytes) => bytes.length + 1
  | .lit _ => 1
  | .nil => 1
  | .ptr d => uptoBulk d + 1
  | .slice elems spare => uptoBulkAll elems + uptoBulkAll spare + 1
  | .agg parts => uptoBulkAll parts + 1
  | .iface _ d => uptoBulk d + 1
  | .map entries => uptoBulkEntries entries + 1
  | .held _ => 1
def uptoBulkAll {H : Type} : List (DataW H) → Nat
  | [] => 0
  | d :: r => uptoBulk d + uptoBulkAll r
def uptoBulkEntries {H : Type} : List (Lit × DataW H) → Nat
  | [] => 0
  | x :: r => uptoBulkEntry x + uptoBulkEntries r
def uptoBulkEntry {H : Type} : Lit × DataW H → Nat
  | (.string bytes, d) => bytes.length + uptoBulk d + 1
  | (_, d) => uptoBulk d + 1
 end
def uptoSmall : (H : Type) → List (DataW H) → Bool := fun _ ds => decide (uptoBulkAll ds ≤ 1048576)
def OpenSpec.upto (s : _root_.Go.ChangeSpec) : _root_.Go.OpenSpec := { _root_.Go.OpenSpec.ofChange s with cond := some uptoSmall }

/-- 'winepresslaw23.CtxDoes', WHERE WHAT IT READS IS OF BULK AT MOST 1048576: true; the input reads as it did. -/
def ctxDoesUptoRow : OpenClaim := { program := "ytcilehndnbnmkaa", sum := "5e9ec3f45e5516215b86eba6f6047b3039261986312ab270583e0c4767a00cd6", func := "winepress/winepresslaw23.CtxDoes", spec := "ctxDoes", apart := false, narrowed := true }
def CtxDoesUptoSaid : Prop := ctxDoesUptoRow.holds Try.pinned (OpenSpec.upto ctxDoesSpec)

/-- 'winepresslaw23.CtxHolds', WHERE WHAT IT READS IS OF BULK AT MOST 1048576: true; the input reads as it did. -/
def ctxHoldsUptoRow : OpenClaim := { program := "ytcilehndnbnmkaa", sum := "5e9ec3f45e5516215b86eba6f6047b3039261986312ab270583e0c4767a00cd6", func := "winepress/winepresslaw23.CtxHolds", spec := "ctxHolds", apart := false, narrowed := true }
def CtxHoldsUptoSaid : Prop := ctxHoldsUptoRow.holds Try.pinned (OpenSpec.upto ctxHoldsSpec)

/-- 'winepresslaw24.MixDoes', WHERE WHAT IT READS IS OF BULK AT MOST 1048576: true; the input reads as it did. -/
def mixDoesUptoRow : OpenClaim := { program := "ytcilehndnbnmkaa", sum := "5e9ec3f45e5516215b86eba6f6047b3039261986312ab270583e0c4767a00cd6", func := "winepress/winepresslaw24.MixDoes", spec := "mixDoes", apart := false, narrowed := true }
def MixDoesUptoSaid : Prop := mixDoesUptoRow.holds Try.pinned (OpenSpec.upto mixDoesSpec)

/-- 'winepresslaw24.MixBetween', WHERE WHAT IT READS IS OF BULK AT MOST 1048576: true; the input reads as it did. -/
def mixBetweenUptoRow : OpenClaim := { program := "ytcilehndnbnmkaa", sum := "5e9ec3f45e5516215b86eba6f6047b3039261986312ab270583e0c4767a00cd6", func := "winepress/winepresslaw24.MixBetween", spec := "mixBetween", apart := false, narrowed := true }
def MixBetweenUptoSaid : Prop := mixBetweenUptoRow.holds Try.pinned (OpenSpec.upto mixBetweenSpec)

end Rows
end Go.Proofs.Ytcilehndnbnmkaa
