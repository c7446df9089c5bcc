/- Contracts of layer 4's reference: Same, Fit. -/
import Derived.Test.YtcenbaajojdjlaaGreatDoorWordFn
import Derived.Test.YtcenbaajojdjlaaGreatDoorWordRows
import Derived.StillTailTactics
import Derived.Deep.QuietTactic
import Derived.BigQuiet
namespace Go.Proofs.YtcenbaajojdjlaaGreatDoor
open Go.RowKit

/-- What holds at the head of a round of Same: nothing was turned. -/
def SameRel (w : World) (n : Nat) (i : Value) (wr : World) : Prop := ∃ k q : Nat, k ≤ n ∧ i = .int .i64 k ∧ wr = w.drewN q

/-- Words, each modulo what so many bytes hold. -/
def fitW (W : Nat) (ws : List Nat) : List Nat := ws.map (· % 256 ^ W)
theorem fitW_len (W : Nat) (ws : List Nat) : (fitW W ws).length = ws.length := by simp [fitW]
theorem fitW_snoc (W : Nat) (ws : List Nat) (k : Nat) (h : k < ws.length) : fitW W (ws.take (k + 1)) = fitW W (ws.take k) ++ [ws[k] % 256 ^ W] := by
  unfold fitW
  rw [List.take_succ_eq_append_getElem h, List.map_append]
  rfl
/-- What holds at the head of a round of Fit: the words ahead are laid. -/
def FitRel (w : World) (W r : Nat) (ws : List Nat) (i : Value) (wr : World) : Prop :=
  ∃ k : Nat, k ≤ ws.length ∧ i = .int .i64 k ∧ Blk wr r 63 (wrow (fitW W (ws.take k)) ws.length) ∧ Below w.heap.size w wr

end Go.Proofs.YtcenbaajojdjlaaGreatDoor
