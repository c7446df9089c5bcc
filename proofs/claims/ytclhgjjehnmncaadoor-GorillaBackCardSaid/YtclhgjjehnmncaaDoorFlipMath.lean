/- Plain mathematics of layer 7: the bits in which words differ, modulo a power of two. -/
import Derived.Test.YtclhgjjehnmncaaDoorDeltaMath
namespace Go.Proofs.YtclhgjjehnmncaaDoor

/-- What the words ahead of place i come to, their bits turned one by the other. -/
def xorTo (l : List Nat) : Nat → Nat
  | 0 => 0
  | i + 1 => xorTo l i ^^^ l.getD i 0
def flipAt (M : Nat) (l : List Nat) (i : Nat) : Nat := (l.getD i 0 ^^^ ahead l i) % M
def backAt (M : Nat) (l : List Nat) (i : Nat) : Nat := xorTo l (i + 1) % M
def flipW (W : Nat) (l : List Nat) : List Nat := rowOf (flipAt (256 ^ W) l) l.length
def backW (W : Nat) (l : List Nat) : List Nat := rowOf (backAt (256 ^ W) l) l.length
theorem flipW_len (W : Nat) (l : List Nat) : (flipW W l).length = l.length := rowOf_len _ _
theorem backW_len (W : Nat) (l : List Nat) : (backW W l).length = l.length := rowOf_len _ _
theorem flipW_lt (W : Nat) (l : List Nat) : ∀ x ∈ flipW W l, x < 256 ^ W := rowOf_lt _ _ _ fun _ => Nat.mod_lt _ pow_pos'
theorem backW_lt (W : Nat) (l : List Nat) : ∀ x ∈ backW W l, x < 256 ^ W := rowOf_lt _ _ _ fun _ => Nat.mod_lt _ pow_pos'

theorem xor_mod (W a b : Nat) : (a ^^^ b) % 256 ^ W = (a % 256 ^ W) ^^^ (b % 256 ^ W) := by
  rw [show 256 ^ W = 2 ^ (8 * W) by rw [Nat.pow_mul]]
  exact Nat.xor_mod_two_pow
theorem xor_lt (W a b : Nat) (ha : a < 256 ^ W) (hb : b < 256 ^ W) : a ^^^ b < 256 ^ W := by
  rw [show 256 ^ W = 2 ^ (8 * W) by rw [Nat.pow_mul]] at *
  exact Nat.xor_lt_two_pow ha hb
theorem xor_away (a b : Nat) : a ^^^ (b ^^^ a) = b := by
  rw [Nat.xor_comm b a, ← Nat.xor_assoc, Nat.xor_self, Nat.zero_xor]

/-- What was flipped comes back. -/
theorem back_flip (W : Nat) (l : List Nat) : backW W (flipW W l) = l.map (· % 256 ^ W) := by
  have key : ∀ k, k ≤ l.length → xorTo (flipW W l) k % 256 ^ W = ahead l k % 256 ^ W := by
    intro k
    induction k with
    | zero => intro _; rfl
    | succ k ih =>
      intro hk
      have ih := ih (by omega)
      show (xorTo (flipW W l) k ^^^ (flipW W l).getD k 0) % 256 ^ W = (if k + 1 = 0 then 0 else l.getD (k + 1 - 1) 0) % 256 ^ W
      rw [if_neg (by omega), Nat.add_sub_cancel, flipW, rowOf_get _ _ _ (by omega), ← flipW, xor_mod, ih]
      unfold flipAt
      rw [Nat.mod_mod, ← xor_mod, xor_away]
  unfold backW
  rw [flipW_len]
  refine rowOf_ext _ _ _ (by simp) fun i hi => ?_
  rw [getD_map_mod]
  have := key (i + 1) (by omega)
  rw [ahead, if_neg (by omega), Nat.add_sub_cancel] at this
  exact this
/-- What came back is flipped so. -/
theorem flip_back (W : Nat) (l : List Nat) : flipW W (backW W l) = l.map (· % 256 ^ W) := by
  unfold flipW
  rw [backW_len]
  refine rowOf_ext _ _ _ (by simp) fun i hi => ?_
  rw [getD_map_mod]
  have ha : ahead (backW W l) i = xorTo l i % 256 ^ W := by
    unfold ahead
    split
    · rename_i h0
      subst h0
      simp [xorTo]
    · rw [backW, rowOf_get _ _ _ (by omega)]
      unfold backAt
      rw [show i - 1 + 1 = i by omega]
  unfold flipAt
  rw [ha, backW, rowOf_get _ _ _ hi]
  unfold backAt
  rw [xorTo, ← xor_mod, Nat.mod_mod, Nat.xor_comm (xorTo l i), Nat.xor_assoc, Nat.xor_self, Nat.xor_zero]

/-! ### A row that grows by a word -/
theorem getD_snoc_lt (p : List Nat) (x i : Nat) (h : i < p.length) : (p ++ [x]).getD i 0 = p.getD i 0 := by
  simp [List.getD_eq_getElem?_getD, List.getElem?_append_left h]
theorem getD_snoc (p : List Nat) (x : Nat) : (p ++ [x]).getD p.length 0 = x := by
  simp [List.getD_eq_getElem?_getD]
theorem ahead_snoc (p : List Nat) (x i : Nat) (h : i ≤ p.length) : ahead (p ++ [x]) i = ahead p i := by
  unfold ahead
  split
  · rfl
  · exact getD_snoc_lt p x _ (by omega)
theorem ahead_last (p : List Nat) (x : Nat) : ahead (p ++ [x]) (p.length + 1) = x := by
  rw [ahead, if_neg (by omega), Nat.add_sub_cancel, getD_snoc]
theorem xorTo_snoc (p : List Nat) (x : Nat) : ∀ i, i ≤ p.length → xorTo (p ++ [x]) i = xorTo p i
  | 0, _ => rfl
  | i + 1, h => by
    rw [xorTo, xorTo, xorTo_snoc p x i (by omega), getD_snoc_lt p x i (by omega)]
theorem xorTo_last (p : List Nat) (x : Nat) : xorTo (p ++ [x]) (p.length + 1) = xorTo p p.length ^^^ x := by
  rw [xorTo, xorTo_snoc p x _ (Nat.le_refl _), getD_snoc]
theorem flip_snoc (W : Nat) (p : List Nat) (x : Nat) : flipW W (p ++ [x]) = flipW W p ++ [(x ^^^ ahead p p.length) % 256 ^ W] := by
  unfold flipW
  rw [List.length_append, List.length_singleton, rowOf_snoc, rowOf_congr _ (flipAt (256 ^ W) p) p.length, flipAt, getD_snoc, ahead_snoc p x _ (Nat.le_refl _)]
  intro i hi
  rw [flipAt, flipAt, getD_snoc_lt p x i hi, ahead_snoc p x i (by omega)]
theorem back_snoc (W : Nat) (p : List Nat) (x : Nat) : backW W (p ++ [x]) = backW W p ++ [(xorTo p p.length ^^^ x) % 256 ^ W] := by
  unfold backW
  rw [List.length_append, List.length_singleton, rowOf_snoc, rowOf_congr _ (backAt (256 ^ W) p) p.length, backAt, xorTo_last]
  intro i hi
  rw [backAt, backAt, xorTo_snoc p x _ (by omega)]

/-! ### Words that are cut first -/
theorem ahead_map (W : Nat) (l : List Nat) (i : Nat) : ahead (l.map (· % 256 ^ W)) i = ahead l i % 256 ^ W := by
  unfold ahead
  split
  · simp
  · exact getD_map_mod _ _ _
theorem xorTo_map (W : Nat) (l : List Nat) : ∀ i, xorTo (l.map (· % 256 ^ W)) i = xorTo l i % 256 ^ W
  | 0 => by simp [xorTo]
  | i + 1 => by rw [xorTo, xorTo, xorTo_map W l i, getD_map_mod, ← xor_mod]
theorem flip_fit {W : Nat} (hW : IsW W) (l : List Nat) : flipW 8 (l.map (· % 256 ^ W)) = flipW W l := by
  unfold flipW
  rw [List.length_map]
  refine rowOf_congr _ _ _ fun i _ => ?_
  unfold flipAt
  rw [getD_map_mod, ahead_map, ← xor_mod]
  have := Nat.mod_lt (l.getD i 0 ^^^ ahead l i) (pow_pos' (W := W))
  refine Nat.mod_eq_of_lt (Nat.lt_of_lt_of_le this ?_)
  rcases isW_pow hW with e | e | e | e <;> rw [e] <;> decide
theorem back_fit {W : Nat} (hW : IsW W) (l : List Nat) : backW 8 (l.map (· % 256 ^ W)) = backW W l := by
  unfold backW
  rw [List.length_map]
  refine rowOf_congr _ _ _ fun i _ => ?_
  unfold backAt
  rw [xorTo_map]
  have := Nat.mod_lt (xorTo l (i + 1)) (pow_pos' (W := W))
  refine Nat.mod_eq_of_lt (Nat.lt_of_lt_of_le this ?_)
  rcases isW_pow hW with e | e | e | e <;> rw [e] <;> decide
theorem xorTo_lt (l : List Nat) (h : ∀ x ∈ l, x < 18446744073709551616) : ∀ i, xorTo l i < 18446744073709551616
  | 0 => by show (0 : Nat) < _; decide
  | i + 1 => by
    have h1 := xorTo_lt l h i
    have h2 := getD_lt l _ (by decide) h i
    rw [xorTo]
    exact xor_lt 8 _ _ h1 h2
end Go.Proofs.YtclhgjjehnmncaaDoor
