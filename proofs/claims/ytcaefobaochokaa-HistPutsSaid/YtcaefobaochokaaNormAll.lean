/- Contracts of layer 14: Norm, where counts may be. -/
import Derived.Test.YtcaefobaochokaaNormDo
namespace Go.Proofs.Ytcaefobaochokaa
open Go.RowKit Go.Sort Go.Shelf

theorem nBad_not {c : List Int} (h : c.any nBad = false) : ∀ x ∈ c, 0 ≤ x ∧ x ≤ 1099511627776 := by
  intro x hx
  have := List.any_eq_false.1 h x hx
  simp [nBad] at this
  exact this
/-- What the last loop of Norm keeps: so many are still too many. -/
structure Trims (w : World) (c : List Int) (n g bs T d : Nat) (cur : List Int) (wr : World) : Prop where
  row : Blk wr g 3 (zvs cur)
  len : cur.length = n
  alike : Alike c cur
  sum : cur.sum = (T : Int) + (d : Int)
  box : Blk wr bs 22 [.slice (some ⟨g, 0, none⟩) n n]
  below : Below w.heap.size w wr
theorem Trims.next {w wr : World} {c : List Int} {n g bs T d k : Nat} {cur : List Int} (h : Trims w c n g bs T (d + 1) cur wr) (hc : ∀ x ∈ c, 0 ≤ x) (ht : many c ≤ (T : Int)) (hg : bs ≠ g) (hw : w.heap.size ≤ g) (hk : IsFirst cur k) :
    Trims w c n g bs T d (cur.set k (cur.getD k 0 - 1)) (wr.setCell ⟨g, k, none⟩ (.int .i64 (cur.getD k 0 - 1))).drew := by
  have hset := h.row.set_ k (.int .i64 (cur.getD k 0 - 1))
  rw [zvs_set] at hset
  have h2 := first_two h.alike hc ht (by have := h.sum; omega) hk
  refine ⟨hset.same rfl, by rw [List.length_set]; exact h.len, ⟨by rw [List.length_set]; exact h.alike.1, fun j hj => ?_⟩, by rw [set_sum14 cur k _ hk.1, h.sum]; omega, (h.box.setOther _ _ hg).same rfl, (h.below.setCell (p := ⟨g, k, none⟩) hw _).drew⟩
  rw [getD_set14 cur k j _ hk.1]
  have := h.alike.2 j hj
  split
  · rename_i e; subst e; constructor
    · omega
    · constructor
      · intro; omega
      · intro hz; have := this.2.2 hz; omega
  · exact this
section
variable {w : World} {B : Nat} {A : Option Addr} {n m : Nat} {c : List Int}
end
end Go.Proofs.Ytcaefobaochokaa
