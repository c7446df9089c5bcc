/-
  A range over a function that keeps its place in a box of its own, and whose rounds all go on: the iterator turns that box between two rounds; a round keeps the blocks that the iterator names.
-/
import Derived.RangeFuncNested
import Derived.RangeFuncBox
import Derived.Below
import Derived.Deep.Draws
namespace Go.Proofs.Ytjignfnkcbklkaa
open Go.RowKit

section
variable {α : Type} {P : Program}

/-- What of the blocks named by `keep` a round leaves: all. -/
def KeepsB (keep : Nat → Prop) (W W' : World) : Prop := W.heap.size ≤ W'.heap.size ∧ ∀ k, keep k → W'.heap[k]? = W.heap[k]?
end
end Go.Proofs.Ytjignfnkcbklkaa
