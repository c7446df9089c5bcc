/- Layer 27: what the ways' methods do; Code and Decode, by what the coders do. -/
import Derived.Test.YtnfkekaeppgaoaaDoorMdsWay
import Derived.Shelf.Abstract
namespace Go.Proofs.YtnfkekaeppgaoaaDoor
open Go.RowKit Go.Sort Go.Shelf

/-- New memory that holds these bytes. -/
def NewM (w : World) (Q : List UInt8) (e : Ending) (w' : World) : Prop := ∃ v, e = .returned v ∧ IsBytes Q v w' ∧ Below w.heap.size w w'
/-- Bytes, and an error. -/
def SaysM (w : World) (l : List UInt8) (E : Int) (e : Ending) (w' : World) : Prop := ∃ v, e = .returned (.tuple #[v, .int .i64 E]) ∧ IsBytes l v w' ∧ Below w.heap.size w w'
theorem NewM.of {w w1 w' : World} {Q : List UInt8} {e : Ending} (h : NewM w1 Q e w') (hb : Below w.heap.size w w1) : NewM w Q e w' := by
  obtain ⟨v, h1, h2, h3⟩ := h
  exact ⟨v, h1, h2, hb.trans (h3.mono hb.size)⟩
theorem none_bytes (w : World) : IsBytes [] (.slice none 0 0) w := ⟨none, 0, rfl, Nat.le_refl _, Rd.nil_ _ _ _⟩
/-- How many bytes a payload has at least. -/
def leastM (k V n : Nat) : Nat :=
  match k with
  | 0 => n
  | 1 => (n / V + n % V * 8 + 7) / 8
  | 2 => 0
  | 3 => 0
  | 4 => 0
  | _ => if n = 0 then 0 else (260 + n + 7) / 8
def IntM (w : World) (n : Nat) (e : Ending) (w' : World) : Prop := e = .returned (.int .i64 (n : Int)) ∧ Below w.heap.size w w'
end Go.Proofs.YtnfkekaeppgaoaaDoor
