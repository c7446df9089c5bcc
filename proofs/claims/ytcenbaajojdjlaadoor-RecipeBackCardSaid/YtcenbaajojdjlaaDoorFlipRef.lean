/- Contracts of layer 7's reference: Flip, Back. -/
import Derived.Test.YtcenbaajojdjlaaDoorFlipEach
namespace Go.Proofs.YtcenbaajojdjlaaDoor
open Go.RowKit

/-- What holds at the head of a round of Back. -/
def RefRowX (w : World) (W : Nat) (ws : List Nat) (v t i : Value) (wr : World) : Prop :=
  ∃ k : Nat, k ≤ ws.length ∧ i = .int .i64 k ∧ t = .int .u64 ((xorTo ws k : Nat) : Int) ∧ wr.ownsRow w.heap.size 52 1 v k (wvs (rowOf (backAt (256 ^ W) ws) k)) ∧ Below w.heap.size w wr
end Go.Proofs.YtcenbaajojdjlaaDoor
