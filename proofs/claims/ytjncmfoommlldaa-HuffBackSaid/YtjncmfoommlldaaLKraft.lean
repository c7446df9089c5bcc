/- Layer 20: the reference's Kraft. -/
import Derived.Test.YtjncmfoommlldaaCanonOrd
import Derived.Test.YtjncmfoommlldaaNormFn
import Derived.Shelf.Abstract
namespace Go.Proofs.Ytjncmfoommlldaa
open Go.RowKit Go.Sort Go.Shelf

/-- Kraft's sum of lens, whatever numbers they are. -/
def kraftI (l : List Int) : Nat := kraftL (l.map Int.toNat)
theorem kraftI_take (l : List Int) {k : Nat} (h : k < l.length) : kraftI (l.take (k + 1)) = kraftI (l.take k) + if 1 ≤ (l[k]).toNat ∧ (l[k]).toNat ≤ 15 then 2 ^ (15 - (l[k]).toNat) else 0 := by
  unfold kraftI kraftL
  rw [List.take_add_one, List.getElem?_eq_getElem h, List.map_append, List.map_append, List.sum_append]
  congr 1
theorem kraftI_small (l : List Int) : kraftI l ≤ 16384 * l.length := by
  unfold kraftI kraftL
  induction l with
  | nil => simp
  | cons x l ih =>
    simp only [List.map_cons, List.sum_cons, List.length_cons]
    have : (if 1 ≤ x.toNat ∧ x.toNat ≤ 15 then 2 ^ (15 - x.toNat) else 0) ≤ 16384 := by
      split
      · have h := Nat.pow_le_pow_right (n := 2) (by decide) (show 15 - x.toNat ≤ 14 by omega)
        exact h
      · decide
    omega
section
variable {w : World} {A : Option Addr} {n m : Nat} {l : List Int}
end
end Go.Proofs.Ytjncmfoommlldaa
