/- Layer 28: the reference's Read. -/
import Derived.Test.YtnfkekaeppgaoaaDoorOptRd
namespace Go.Proofs.YtnfkekaeppgaoaaDoor
open Go.RowKit Go.Sort

def boolC (s : List Bool) : List Value := s.map fun x => .bool x
def keyCs : List Value := [.string (strA (keyL 0)), .string (strA (keyL 1)), .string (strA (keyL 2)), .string (strA (keyL 3))]
theorem keyC_at {k : Nat} (hk : k < 4) : keyCs[k]? = some (.string (strA (keyL k))) := by
  rcases (show k = 0 ∨ k = 1 ∨ k = 2 ∨ k = 3 by omega) with rfl | rfl | rfl | rfl <;> rfl
theorem cutG_pos (c : UInt8) : ∀ (l cur : List UInt8), 0 < (cutG c cur l).length
  | [], _ => by simp [cutG]
  | x :: t, cur => by
    unfold cutG
    split
    · simp
    · exact cutG_pos c t _
/-- Does a text begin with a key? -/
theorem begins_key {x k : List UInt8} (h : k.length ≤ x.length) : (((strA x).extract 0 k.length).toList == (strA k).toList) = decide (k <+: x) := by
  rw [strA_extract, strA_list, strA_list, List.drop_zero, Nat.sub_zero]
  by_cases hp : k <+: x
  · obtain ⟨t, rfl⟩ := hp
    simp
  · rw [decide_eq_false hp, beq_eq_false_iff_ne]
    intro e
    exact hp ⟨x.drop k.length, by
      have := List.take_append_drop k.length x
      rwa [e] at this⟩
def atI (x : List UInt8) (k : Nat) : Int := if keyAt x < k then (keyAt x : Int) else -1
theorem atI_next {x : List UInt8} {k : Nat} (hk : k < 4) : atI x (k + 1) = if keyL k <+: x then (k : Int) else atI x k := by
  have h1 := keyAt_one (x := x) hk
  unfold atI
  by_cases h : keyL k <+: x
  · rw [if_pos h, h1.1 h, if_pos (by omega)]
  · rw [if_neg h]
    have : keyAt x ≠ k := fun e => h (h1.2 e)
    by_cases hl : keyAt x < k
    · rw [if_pos hl, if_pos (by omega)]
    · rw [if_neg hl, if_neg (by omega)]
theorem boolC_at {s : List Bool} (hs : s.length = 4) {k : Nat} (hk : k < 4) : (boolC s)[k]? = some (.bool (s.getD k false)) := by
  unfold boolC
  rw [List.getElem?_map, List.getD_eq_getElem?_getD, List.getElem?_eq_getElem (by omega)]
  rfl
end Go.Proofs.YtnfkekaeppgaoaaDoor
