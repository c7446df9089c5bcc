/- Contracts of layer 4: words, slices.Clone, Take of the code. -/
import Derived.Test.YtnfkekaeppgaoaaWordRow
namespace Go.Proofs.Ytnfkekaeppgaoaa
open Go.RowKit

theorem info_u8w : (Try.prog.info? 5).map (fun i => (i.zero, i.size, i.bytes)) = some (some (.int .u8 0), 1, 1) := by kernel_rfl
/-- Bytes in a row that is new. -/
def FreshB (B : Nat) (l : List UInt8) (v : Value) (w : World) : Prop := IsBytes l v w ∧ FreshV B v
theorem FreshB.grow (B : Nat) (l : List UInt8) (v : Value) (w w' : World) (h : FreshB B l v w) (hb : Below w.heap.size w w') : FreshB B l v w' := ⟨h.1.grow hb, h.2⟩
def NewBF (w : World) (l : List UInt8) (e : Ending) (w' : World) : Prop := ∃ v, e = .returned v ∧ FreshB w.heap.size l v w' ∧ Below w.heap.size w w'
theorem fresh_own {w : World} {base e size n : Nat} {v : Value} {xs : List Value} (h : w.ownsRow base e size v n xs) : FreshV base v := by
  rcases h.2 with ⟨rfl, _⟩ | ⟨g, cap, cur, rfl, hb, _⟩
  · exact FreshV.nil _
  · exact FreshV.at_ hb
theorem size_u8w : (Try.prog.info? 5).map (·.size) = some 1 := by kernel_rfl

def NewTake (w : World) (ws : List Nat) (l : List UInt8) (e : Ending) (w' : World) : Prop :=
  ∃ v1 v2, e = .returned (.tuple #[v1, v2]) ∧ IsCells (wvs ws) v1 w' ∧ IsBytes l v2 w' ∧ Below w.heap.size w w'

def NewTakeF (w : World) (ws : List Nat) (l : List UInt8) (e : Ending) (w' : World) : Prop :=
  ∃ v1 v2, e = .returned (.tuple #[v1, v2]) ∧ FreshC w.heap.size (wvs ws) v1 w' ∧ FreshB w.heap.size l v2 w' ∧ Below w.heap.size w w'
theorem NewTakeF.t {w : World} {ws : List Nat} {l : List UInt8} {e : Ending} {w' : World} (h : NewTakeF w ws l e w') : NewTake w ws l e w' := by
  obtain ⟨v1, v2, he, h1, h2, h3⟩ := h
  exact ⟨v1, v2, he, h1.1, h2.1, h3⟩

end Go.Proofs.Ytnfkekaeppgaoaa
