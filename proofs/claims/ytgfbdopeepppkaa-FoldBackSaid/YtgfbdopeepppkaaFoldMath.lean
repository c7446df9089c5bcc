/- Plain mathematics of layer 6: words folded. -/
import Derived.Test.YtgfbdopeepppkaaWordRows
namespace Go.Proofs.Ytgfbdopeepppkaa

def foldN (M v : Nat) : Nat := if v ≤ (M - 1) / 2 then 2 * v else 2 * (M - 1 - v) + 1
def unfoldN (M u : Nat) : Nat := if u % 2 = 0 then u / 2 else M - 1 - u / 2
def foldAt (M : Nat) (l : List Nat) (i : Nat) : Nat := foldN M (l.getD i 0 % M)
def unfoldAt (M : Nat) (l : List Nat) (i : Nat) : Nat := unfoldN M (l.getD i 0 % M)
def foldW (W : Nat) (l : List Nat) : List Nat := rowOf (foldAt (256 ^ W) l) l.length
def unfoldW (W : Nat) (l : List Nat) : List Nat := rowOf (unfoldAt (256 ^ W) l) l.length
theorem foldW_len (W : Nat) (l : List Nat) : (foldW W l).length = l.length := rowOf_len _ _
theorem unfoldW_len (W : Nat) (l : List Nat) : (unfoldW W l).length = l.length := rowOf_len _ _
theorem foldN_lt {W : Nat} (hW : IsW W) (v : Nat) (hv : v < 256 ^ W) : foldN (256 ^ W) v < 256 ^ W := by
  unfold foldN
  rcases isW_pow hW with e | e | e | e <;> rw [e] at hv ⊢ <;> split <;> omega
theorem unfoldN_lt {W : Nat} (hW : IsW W) (v : Nat) (hv : v < 256 ^ W) : unfoldN (256 ^ W) v < 256 ^ W := by
  unfold unfoldN
  rcases isW_pow hW with e | e | e | e <;> rw [e] at hv ⊢ <;> split <;> omega
theorem unfold_foldN {W : Nat} (hW : IsW W) (v : Nat) (hv : v < 256 ^ W) : unfoldN (256 ^ W) (foldN (256 ^ W) v) = v := by
  unfold unfoldN foldN
  rcases isW_pow hW with e | e | e | e <;> rw [e] at hv ⊢ <;> split <;> split <;> omega
theorem fold_unfoldN {W : Nat} (hW : IsW W) (v : Nat) (hv : v < 256 ^ W) : foldN (256 ^ W) (unfoldN (256 ^ W) v) = v := by
  unfold unfoldN foldN
  rcases isW_pow hW with e | e | e | e <;> rw [e] at hv ⊢ <;> split <;> split <;> omega
theorem foldW_lt {W : Nat} (hW : IsW W) (l : List Nat) : ∀ x ∈ foldW W l, x < 256 ^ W := rowOf_lt _ _ _ fun _ => foldN_lt hW _ (Nat.mod_lt _ pow_pos')
theorem unfoldW_lt {W : Nat} (hW : IsW W) (l : List Nat) : ∀ x ∈ unfoldW W l, x < 256 ^ W := rowOf_lt _ _ _ fun _ => unfoldN_lt hW _ (Nat.mod_lt _ pow_pos')
theorem unfold_fold {W : Nat} (hW : IsW W) (l : List Nat) : unfoldW W (foldW W l) = l.map (· % 256 ^ W) := by
  unfold unfoldW
  rw [foldW_len]
  refine rowOf_ext _ _ _ (by simp) fun i hi => ?_
  rw [getD_map_mod]
  have hv : l.getD i 0 % 256 ^ W < 256 ^ W := Nat.mod_lt _ pow_pos'
  unfold unfoldAt
  rw [foldW, rowOf_get _ _ _ hi]
  unfold foldAt
  rw [Nat.mod_eq_of_lt (foldN_lt hW _ hv), unfold_foldN hW _ hv]
theorem fold_unfold {W : Nat} (hW : IsW W) (l : List Nat) : foldW W (unfoldW W l) = l.map (· % 256 ^ W) := by
  unfold foldW
  rw [unfoldW_len]
  refine rowOf_ext _ _ _ (by simp) fun i hi => ?_
  rw [getD_map_mod]
  have hv : l.getD i 0 % 256 ^ W < 256 ^ W := Nat.mod_lt _ pow_pos'
  unfold foldAt
  rw [unfoldW, rowOf_get _ _ _ hi]
  unfold unfoldAt
  rw [Nat.mod_eq_of_lt (unfoldN_lt hW _ hv), fold_unfoldN hW _ hv]
end Go.Proofs.Ytgfbdopeepppkaa
