/- Contracts of layer 4: together and row, at each type of numbers. -/
import Derived.Test.YtnfkekaeppgaoaaWordFn
namespace Go.Proofs.Ytnfkekaeppgaoaa
open Go.RowKit

/-- What holds at the head of a round of row: the words ahead are laid. -/
def RowRel (w : World) (W m r : Nat) (l : List UInt8) (i : Value) (wr : World) : Prop :=
  ∃ k : Nat, k ≤ m ∧ i = .int .i64 k ∧ Blk wr r 49 (wrow (wordsN k W l) m) ∧ Below w.heap.size w wr
theorem wrow_next (k W m : Nat) (l : List UInt8) (h : k < m) : (wrow (wordsN k W l) m).set k (.int .u64 (leN ((l.drop (k * W)).take W) : Int)) = wrow (wordsN (k + 1) W l) m := by
  have e := wrow_set (wordsN k W l) m (leN ((l.drop (k * W)).take W)) (by rw [wordsN_len]; exact h)
  rw [wordsN_len] at e
  rw [e, wordsN_snoc]
theorem wrow_here (k W m : Nat) (l : List UInt8) (h : k < m) : (wrow (wordsN k W l) m)[k]? = some (.int .u64 0) := by
  have e := wrow_get (wordsN k W l) m (by rw [wordsN_len]; exact h)
  rwa [wordsN_len] at e

end Go.Proofs.Ytnfkekaeppgaoaa
