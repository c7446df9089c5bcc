/- Words of a width: what the contracts of words say. -/
import Derived.Test.YtclhgjjehnmncaaDoorProg
import Derived.Test.YtclhgjjehnmncaaDoorMore
import Derived.Test.YtclhgjjehnmncaaDoorWordMath
namespace Go.Proofs.YtclhgjjehnmncaaDoor
open Go.RowKit

/-- Is it a width? -/
def IsW (W : Nat) : Prop := W = 1 ∨ W = 2 ∨ W = 4 ∨ W = 8
theorem IsW.right {W : Nat} (h : IsW W) : true = rightB (W : Int) := by
  rcases h with rfl | rfl | rfl | rfl <;> rfl
theorem isW_of {n : Int} (h : rightB n = true) : ∃ W : Nat, n = (W : Int) ∧ IsW W := by
  rcases (right_iff n).1 h with rfl | rfl | rfl | rfl
  · exact ⟨1, rfl, .inl rfl⟩
  · exact ⟨2, rfl, .inr (.inl rfl)⟩
  · exact ⟨4, rfl, .inr (.inr (.inl rfl))⟩
  · exact ⟨8, rfl, .inr (.inr (.inr rfl))⟩
theorem IsW.pos {W : Nat} (h : IsW W) : 1 ≤ W ∧ W ≤ 8 := by rcases h with rfl | rfl | rfl | rfl <;> omega

theorem info_u64r : (Tryd.prog.info? 34).map (fun i => (i.zero, i.size, i.bytes)) = some (some (.int .u64 0), 1, 8) := by kernel_rfl
/-- What hands back words in new memory. -/
def NewW (w : World) (ws : List Nat) (e : Ending) (w' : World) : Prop := ∃ v, e = .returned v ∧ IsCells (wvs ws) v w' ∧ Below w.heap.size w w'
theorem width_of (u : Nat) : ∃ V, IsW V ∧ wrap64 (2 ^ (u % 4)) = (V : Int) := by
  rcases (show u % 4 = 0 ∨ u % 4 = 1 ∨ u % 4 = 2 ∨ u % 4 = 3 by omega) with h | h | h | h <;> rw [h]
  · exact ⟨1, .inl rfl, IntWalk.wrap64_in _ (by decide)⟩
  · exact ⟨2, .inr (.inl rfl), IntWalk.wrap64_in _ (by decide)⟩
  · exact ⟨4, .inr (.inr (.inl rfl)), IntWalk.wrap64_in _ (by decide)⟩
  · exact ⟨8, .inr (.inr (.inr rfl)), IntWalk.wrap64_in _ (by decide)⟩
/-- What hands back bytes in new memory. -/
def NewBs (w : World) (l : List UInt8) (e : Ending) (w' : World) : Prop := ∃ v, e = .returned v ∧ IsBytes l v w' ∧ Below w.heap.size w w'
theorem NewBs.says {w : World} {l : List UInt8} {e : Ending} {w' : World} (h : NewBs w l e w') : ∃ v, e = .returned v ∧ (Fact.bytes l).says v w' ∧ Below w.heap.size w w' := h
end Go.Proofs.YtclhgjjehnmncaaDoor
