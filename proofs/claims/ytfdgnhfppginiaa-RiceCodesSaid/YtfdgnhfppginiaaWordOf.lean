/- Plain mathematics of layer 4: the words of bytes, and what is left behind them. -/
import Derived.Test.YtfdgnhfppginiaaWordFn
namespace Go.Proofs.Ytfdgnhfppginiaa

/-- The words of bytes, and what is left behind them. -/
def wordsOf (W : Nat) (l : List UInt8) : List Nat := wordsN (l.length / W) W l
def restOf (W : Nat) (l : List UInt8) : List UInt8 := l.drop (l.length / W * W)
theorem wordsOf_len (W : Nat) (l : List UInt8) : (wordsOf W l).length = l.length / W := wordsN_len _ _ _
theorem restOf_len (W : Nat) (l : List UInt8) : (restOf W l).length = l.length - l.length / W * W := by simp [restOf]
theorem words_of_lay {W : Nat} (hW : 0 < W) (ws : List Nat) (rest : List UInt8) (hr : rest.length < W) :
    wordsOf W (layW W ws ++ rest) = ws.map (· % 256 ^ W) ∧ restOf W (layW W ws ++ rest) = rest := by
  have hd : (layW W ws ++ rest).length / W = ws.length := by
    rw [List.length_append, layW_len, Nat.add_comm, Nat.add_mul_div_right _ _ hW, Nat.div_eq_of_lt hr, Nat.zero_add]
  unfold wordsOf restOf
  rw [hd]
  refine ⟨words_layW W ws rest, ?_⟩
  rw [List.drop_left' (layW_len W ws)]
theorem rest_lt {W : Nat} (hW : 0 < W) (l : List UInt8) : (restOf W l).length < W := by
  rw [restOf_len]
  have h1 := Nat.div_add_mod l.length W
  have h2 := Nat.mod_lt l.length hW
  rw [Nat.mul_comm] at h1
  omega
theorem lay_words {W : Nat} (l : List UInt8) : layW W (wordsOf W l) ++ restOf W l = l := by
  unfold wordsOf restOf
  rw [layW_words _ _ _ (Nat.div_mul_le_self _ _), List.take_append_drop]
theorem wordsOf_lt {W : Nat} (hW : 0 < W) (l : List UInt8) : ∀ x ∈ wordsOf W l, x < 256 ^ W := by
  have h := words_of_lay hW (wordsOf W l) (restOf W l) (rest_lt hW l)
  rw [lay_words] at h
  intro x hx
  rw [h.1] at hx
  obtain ⟨y, _, rfl⟩ := List.mem_map.1 hx
  exact Nat.mod_lt _ (Nat.pow_pos (by decide))
end Go.Proofs.Ytfdgnhfppginiaa
