/- The fixed calls of layer 1's laws. -/
import Derived.Test.YtjncmfoommlldaaBitD
import Derived.Test.YtjncmfoommlldaaBase
import Derived.Deep.RegionWith
namespace Go.Proofs.Ytjncmfoommlldaa
open Go.RowKit

/-- What answers true, and turns nothing that was there. -/
def YesB (w : World) (e : Ending) (w' : World) : Prop := e = .returned (.bool true) ∧ Below w.heap.size w w'
theorem NewBy.says {w : World} {l : List UInt8} {e : Ending} {w' : World} (h : NewBy w l e w') : ∃ v, e = .returned v ∧ (Fact.bytes l).says v w' ∧ Below w.heap.size w w' := by
  obtain ⟨v, he, hown, hb⟩ := h
  exact ⟨v, he, IsBytes.of_own hown, hb⟩
theorem WrAt.only {B B' g : Nat} {ts : List TypeId} {l : List Bool} {w w' : World} (h : WrAt w B' g l) (ho : OnlyT B ts w w') (h1 : 37 ∉ ts) (h2 : 5 ∉ ts) : WrAt w' B' g l := by
  obtain ⟨v, bs, hb, hg, hown, hp⟩ := h
  exact ⟨v, bs, hb.only ho h1, hg, own_only hown ho h2, hp⟩
theorem wrAt_new (w : World) (B : Nat) (h : B ≤ w.heap.size) : WrAt (w.alloc (.cells #[.slice none 0 0, .int .i64 0] 37)) B w.heap.size [] :=
  ⟨.slice none 0 0, [], heap_alloc_new w _, h, World.ownsRow_nil _ _ _ _, Packs.nil⟩

/-- the bits of the fixed calls -/
def l7 : List Bool := [true, false, true, true, true, true, false]
theorem packs61 {bs : List UInt8} (h : Packs bs l7) : bs = [61] := by
  refine h.unique ⟨by decide, fun i => ?_⟩
  rcases Nat.lt_or_ge i 8 with g | g
  · have : ∀ j : Fin 8, bitAt [61] j.val = l7.getD j.val false := by decide
    exact this ⟨i, g⟩
  · have e1 : bitAt [61] i = false := by
      simp only [bitAt, List.getD_eq_getElem?_getD]
      rw [List.getElem?_eq_none (by simp; omega)]
      simp
    rw [e1, List.getD_eq_getElem?_getD, List.getElem?_eq_none (by simp [l7]; omega)]
    rfl

end Go.Proofs.Ytjncmfoommlldaa
