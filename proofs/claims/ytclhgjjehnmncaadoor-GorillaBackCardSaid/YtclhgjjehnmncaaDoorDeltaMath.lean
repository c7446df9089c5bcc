/- Plain mathematics of layer 5: differences and sums of words, modulo a power of two. -/
import Derived.Test.YtclhgjjehnmncaaDoorWordRows
namespace Go.Proofs.YtclhgjjehnmncaaDoor

/-- All words ahead of place i, together. -/
def sumTo (l : List Nat) : Nat → Nat
  | 0 => 0
  | i + 1 => sumTo l i + l.getD i 0
/-- The word ahead of place i. -/
def ahead (l : List Nat) (i : Nat) : Nat := if i = 0 then 0 else l.getD (i - 1) 0
def diffAt (M : Nat) (l : List Nat) (i : Nat) : Nat := (l.getD i 0 + (18446744073709551616 - ahead l i)) % 18446744073709551616 % M
def sumAt (M : Nat) (l : List Nat) (i : Nat) : Nat := sumTo l (i + 1) % M
def diffW (W : Nat) (l : List Nat) : List Nat := rowOf (diffAt (256 ^ W) l) l.length
def sumW (W : Nat) (l : List Nat) : List Nat := rowOf (sumAt (256 ^ W) l) l.length
theorem diffW_len (W : Nat) (l : List Nat) : (diffW W l).length = l.length := rowOf_len _ _
theorem sumW_len (W : Nat) (l : List Nat) : (sumW W l).length = l.length := rowOf_len _ _

theorem ahead_lt (l : List Nat) (B : Nat) (hB : 0 < B) (h : ∀ x ∈ l, x < B) (i : Nat) : ahead l i < B := by
  unfold ahead
  split
  · exact hB
  · exact getD_lt l B hB h _
theorem diffW_lt (W : Nat) (l : List Nat) : ∀ x ∈ diffW W l, x < 256 ^ W := rowOf_lt _ _ _ fun _ => Nat.mod_lt _ pow_pos'
theorem sumW_lt (W : Nat) (l : List Nat) : ∀ x ∈ sumW W l, x < 256 ^ W := rowOf_lt _ _ _ fun _ => Nat.mod_lt _ pow_pos'
/-- The sum of the differences is the words. -/
theorem sum_diff {W : Nat} (hW : IsW W) (l : List Nat) (h : ∀ x ∈ l, x < 18446744073709551616) : sumW W (diffW W l) = l.map (· % 256 ^ W) := by
  have key : ∀ k, k ≤ l.length → sumTo (diffW W l) k % 256 ^ W = ahead l k % 256 ^ W := by
    intro k
    induction k with
    | zero => intro _; rfl
    | succ k ih =>
      intro hk
      have ih := ih (by omega)
      have h1 := getD_lt l _ (by decide) h k
      have h2 := ahead_lt l _ (by decide) h k
      show (sumTo (diffW W l) k + (diffW W l).getD k 0) % 256 ^ W = (if k + 1 = 0 then 0 else l.getD (k + 1 - 1) 0) % 256 ^ W
      rw [if_neg (by omega), Nat.add_sub_cancel, diffW, rowOf_get _ _ _ (by omega), ← diffW]
      unfold diffAt
      generalize sumTo (diffW W l) k = s at *
      generalize ahead l k = p at *
      generalize l.getD k 0 = x at *
      rcases isW_pow hW with e | e | e | e <;> rw [e] at ih ⊢ <;> omega
  unfold sumW
  rw [diffW_len]
  refine rowOf_ext _ _ _ (by simp) fun i hi => ?_
  rw [getD_map_mod]
  have := key (i + 1) (by omega)
  rw [ahead, if_neg (by omega), Nat.add_sub_cancel] at this
  exact this
/-- The differences of the sums are the words. -/
theorem diff_sum {W : Nat} (hW : IsW W) (l : List Nat) : diffW W (sumW W l) = l.map (· % 256 ^ W) := by
  unfold diffW
  rw [sumW_len]
  refine rowOf_ext _ _ _ (by simp) fun i hi => ?_
  rw [getD_map_mod]
  have ha : ahead (sumW W l) i = sumTo l i % 256 ^ W := by
    unfold ahead
    split
    · rename_i h0
      subst h0
      simp [sumTo]
    · rw [sumW, rowOf_get _ _ _ (by omega)]
      unfold sumAt
      rw [show i - 1 + 1 = i by omega]
  unfold diffAt
  rw [ha, sumW, rowOf_get _ _ _ hi]
  unfold sumAt
  rw [sumTo]
  generalize sumTo l i = s
  generalize l.getD i 0 = x
  rcases isW_pow hW with e | e | e | e <;> rw [e] <;> omega

def secondW (W : Nat) (l : List Nat) : List Nat := diffW W (diffW W l)
def twiceW (W : Nat) (l : List Nat) : List Nat := sumW W (sumW W l)
theorem twice_second {W : Nat} (hW : IsW W) (l : List Nat) (h : ∀ x ∈ l, x < 18446744073709551616) : twiceW W (secondW W l) = l.map (· % 256 ^ W) := by
  unfold twiceW secondW
  rw [sum_diff hW _ (lt_64 hW (diffW_lt W l)), fit_self (diffW_lt W l), sum_diff hW l h]
theorem second_twice {W : Nat} (hW : IsW W) (l : List Nat) : secondW W (twiceW W l) = l.map (· % 256 ^ W) := by
  unfold twiceW secondW
  rw [diff_sum hW, fit_self (sumW_lt W l), diff_sum hW]
/-- Of words that grow by the same the second differences are noughts. -/
theorem second_ramp {W : Nat} (hW : IsW W) (a s n i : Nat) (h2 : 2 ≤ i) (hi : i < n) :
    (secondW W (rowOf (fun j => (a + j * s) % 18446744073709551616) n)).getD i 0 = 0 := by
  have hr : ∀ j, j < n → (rowOf (fun j => (a + j * s) % 18446744073709551616) n).getD j 0 = (a + j * s) % 18446744073709551616 := fun j hj => rowOf_get _ _ _ hj
  have hd : ∀ j, 1 ≤ j → j < n → (diffW W (rowOf (fun j => (a + j * s) % 18446744073709551616) n)).getD j 0 = s % 256 ^ W := by
    intro j h1 hj
    unfold diffW
    rw [rowOf_len, rowOf_get _ _ _ hj]
    unfold diffAt ahead
    rw [if_neg (by omega), hr j hj, hr (j - 1) (by omega)]
    have e : a + j * s = a + (j - 1) * s + s := by
      obtain ⟨m, rfl⟩ : ∃ m, j = m + 1 := ⟨j - 1, by omega⟩
      rw [Nat.add_sub_cancel, Nat.add_mul]
      omega
    rw [e]
    generalize a + (j - 1) * s = x
    rcases isW_pow hW with e | e | e | e <;> rw [e] <;> omega
  unfold secondW
  rw [diffW, diffW_len, rowOf_len, rowOf_get _ _ _ hi]
  unfold diffAt ahead
  rw [if_neg (by omega), hd i (by omega) hi, hd (i - 1) (by omega) (by omega)]
  have hs : s % 256 ^ W < 256 ^ W := Nat.mod_lt _ pow_pos'
  rcases isW_pow hW with e | e | e | e <;> rw [e] at hs ⊢ <;> omega
end Go.Proofs.YtclhgjjehnmncaaDoor
