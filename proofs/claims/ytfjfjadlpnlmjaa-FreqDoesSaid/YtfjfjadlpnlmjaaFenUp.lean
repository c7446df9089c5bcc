/- Mathematics of layer 12: a count that is d more: the way up, place by place. -/
import Derived.Test.YtfjfjadlpnlmjaaFenSeq
namespace Go.Proofs.Ytfjfjadlpnlmjaa

/-- Where the way up stands, behind some places. -/
def upAt (p : Nat) : List Nat → Nat
  | [] => p
  | x :: r => upAt (x + fLow x) r
theorem upAt_snoc (l : List Nat) : ∀ (p x : Nat), upAt p (l ++ [x]) = x + fLow x := by
  induction l with
  | nil => intro p x; rfl
  | cons y r ih => intro p x; exact ih _ x
theorem isUp_at {n : Nat} : ∀ {pre rest : List Nat} {p : Nat}, IsUp n p (pre ++ rest) → IsUp n (upAt p pre) rest := by
  intro pre
  induction pre with
  | nil => intro rest p h; exact h
  | cons y r ih => intro rest p h; obtain ⟨rfl, -, h⟩ := h; exact ih h

/-- The places below q are those of c', the others those of c. -/
def mixRow (c c' : List Int) (q : Nat) : List Int := (List.range (c.length + 1)).map fun j => if j < q then fNode c' j else fNode c j
theorem mixRow_len (c c' : List Int) (q : Nat) : (mixRow c c' q).length = c.length + 1 := by simp [mixRow]
theorem mixRow_get (c c' : List Int) (q j : Nat) (h : j ≤ c.length) : (mixRow c c' q)[j]? = some (if j < q then fNode c' j else fNode c j) := by
  unfold mixRow; rw [List.getElem?_map, List.getElem?_range (by omega)]; rfl
/-- Of the places from q on, those that have the k-th count are those that begin ahead of q. -/
def Mix (n k q : Nat) : Prop := k + 1 ≤ q ∧ ∀ j, q ≤ j → j ≤ n → ((j - fLow j < k + 1 ∧ k + 1 ≤ j) ↔ j - fLow j < q)
theorem mix_first (n k : Nat) : Mix n k (k + 1) := ⟨Nat.le_refl _, fun _ hj _ => ⟨fun h => h.1, fun h => ⟨h, hj⟩⟩⟩
theorem mix_next {n k q : Nat} (hn : n < 2 ^ 64) (h : Mix n k q) : Mix n k (q + fLow q) := by
  have hpos := fLow_pos q
  refine ⟨by have := h.1; omega, fun j hj hjn => ?_⟩
  rw [h.2 j (by omega) hjn]
  exact ⟨fun x => by omega, fun x => up_beyond (by have := h.1; omega) hj (by omega) x⟩
theorem mixRow_first (c : List Int) (k : Nat) (h : k < c.length) (d : Int) : mixRow c (c.set k (c[k] + d)) (k + 1) = fRow c := by
  refine List.map_congr_left fun j _ => ?_
  split
  · rw [fNode_set c k h d j, if_neg (by omega), Int.add_zero]
  · rfl
theorem mixRow_next (c : List Int) (k q : Nat) (h : k < c.length) (d : Int) (hn : c.length < 2 ^ 64) (hm : Mix c.length k q) (hq : q ≤ c.length) :
    mixRow c (c.set k (c[k] + d)) (q + fLow q) = (mixRow c (c.set k (c[k] + d)) q).set q (fNode c q + d) := by
  have hpos := fLow_pos q
  have hq0 : 0 < q := by have := hm.1; omega
  have hql := fLow_le hq0 (by omega)
  refine List.ext_getElem? fun j => ?_
  rcases Nat.lt_or_ge j (c.length + 1) with hj | hj
  · rw [mixRow_get _ _ _ j (by omega)]
    by_cases e : q = j
    · subst e
      rw [List.getElem?_set_self (by rw [mixRow_len]; exact hj), if_pos (by omega), fNode_set c k h d q, if_pos ((hm.2 q (Nat.le_refl _) hq).2 (by omega))]
    · rw [List.getElem?_set_ne e, mixRow_get _ _ _ j (by omega)]
      by_cases h1 : j < q
      · rw [if_pos h1, if_pos (by omega)]
      · rw [if_neg h1]
        by_cases h2 : j < q + fLow q
        · rw [if_pos h2, fNode_set c k h d j, if_neg ?_, Int.add_zero]
          intro x
          have := (hm.2 j (by omega) (by omega)).1 x
          have := up_between hq0 (show q < j by omega) h2 (by omega)
          omega
        · rw [if_neg h2]
  · rw [List.getElem?_eq_none (by rw [mixRow_len]; exact hj), List.getElem?_eq_none (by rw [List.length_set, mixRow_len]; exact hj)]
theorem mixRow_most (c c' : List Int) (q : Nat) (hl : c'.length = c.length) (hq : c.length < q) : mixRow c c' q = fRow c' := by
  unfold mixRow fRow
  rw [hl]
  exact List.map_congr_left fun j hj => by have := List.mem_range.1 hj; rw [if_pos (by omega)]
theorem mix_all {n k : Nat} (hn : n < 2 ^ 64) : ∀ {pre rest : List Nat} {p : Nat}, Mix n k p → IsUp n p (pre ++ rest) → Mix n k (upAt p pre) := by
  intro pre
  induction pre with
  | nil => intro _ _ h _; exact h
  | cons y r ih =>
    intro rest p h hu
    obtain ⟨rfl, -, hu⟩ := hu
    exact ih (mix_next hn h) hu
theorem set_sum (c : List Int) (k : Nat) (h : k < c.length) (d : Int) : (c.set k (c[k] + d)).sum = c.sum + d := by
  have := fPre_set c k h d c.length
  rw [if_pos h, fPre_most c (Nat.le_refl _), fPre_most _ (by simp)] at this
  exact this
end Go.Proofs.Ytfjfjadlpnlmjaa
