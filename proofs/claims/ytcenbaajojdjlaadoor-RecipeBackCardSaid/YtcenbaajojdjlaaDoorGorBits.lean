/- Contracts of layer 9's reference: Bits, Pack. -/
import Derived.Test.YtcenbaajojdjlaaDoorGorRef
import Derived.Test.YtcenbaajojdjlaaDoorGorPack
import Derived.Test.YtcenbaajojdjlaaDoorRefByt
import Derived.Test.YtcenbaajojdjlaaDoorFlipRef
import Derived.Deep.RegionWith
import Derived.Deep.RegionHeld3
import Derived.Deep.AppendLies
namespace Go.Proofs.YtcenbaajojdjlaaDoor
open Go.RowKit

theorem ivs_bits (v n : Nat) : (ivs (bitsOf v n)).length = n := by rw [ivs_length, bitsOf_length]
theorem one2 (v u : Value) (h : v.oneCell' = true) (h' : u.oneCell' = true) : ∀ z ∈ #[v, u].toList, z.oneCell' = true := by
  intro z hz
  simp at hz
  rcases hz with rfl | rfl
  · exact h
  · exact h'
theorem one1i (v : Value) (h : v.oneCell' = true) : ∀ u ∈ #[v].toList, u.oneCell' = true := by
  intro u hu
  simp at hu
  subst hu
  exact h
/-- What holds at the head of a round. -/
def RGRel (w1 : World) (W : Nat) (X : List Nat) (v is hi lo i : Value) (wr : World) : Prop :=
  ∃ (k : Nat) (L : List Bool) (s : Win) (a b : Nat), k ≤ X.length ∧ i = .int .i64 (k : Int) ∧ wr.ownsRow w1.heap.size 3 1 v L.length (ivs L) ∧ is = .bool s.isSome ∧ hi = .int .i64 (a : Int) ∧ lo = .int .i64 (b : Int) ∧ (s = none ∨ s = some (a, b)) ∧ winOk W s ∧ a ≤ 64 ∧ b ≤ 64 ∧
    Below w1.heap.size w1 wr ∧ L.length ≤ k * 78 ∧ Hid ((k = 0 ∧ L = [] ∧ s = none) ∨ (0 < k ∧ L ++ gorL W s (X.drop k) = gorB W X))
end Go.Proofs.YtcenbaajojdjlaaDoor
