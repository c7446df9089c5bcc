/- Plain mathematics of layer 9: words as bits, of each those in which it differs, within a window. -/
import Derived.Test.YtcenbaajojdjlaaGreatDoorWordRows
import Derived.Test.YtcenbaajojdjlaaGreatDoorBitMath
import Derived.Lib.TrailingZeros
import Derived.Lib.BitFns
import Derived.Lib.ItoaNum
namespace Go.Proofs.YtcenbaajojdjlaaGreatDoor

/-- How many noughts are above, and below, the ones of a word that is not 0. -/
def aboveN (W x : Nat) : Nat := 8 * W - Lib.bitLen x
def belowN (x : Nat) : Nat := Lib.ctz 64 x
/-- A window: so many bits above it, so many below; or there is none. -/
abbrev Win := Option (Nat × Nat)
def winOk (W : Nat) : Win → Prop
  | none => True
  | some p => p.1 + p.2 < 8 * W
/-- Has the window all ones of a word with these noughts? -/
def hasB : Win → Nat → Nat → Bool
  | none, _, _ => false
  | some p, a, b => decide (p.1 ≤ a) && decide (p.2 ≤ b)
/-- A word's bits within a window. -/
def ownB (W a b x : Nat) : List Bool := bitsOf (x / 2 ^ b) (8 * W - a - b)
def winB (W : Nat) (s : Win) (x : Nat) : List Bool := ownB W (s.getD (0, 0)).1 (s.getD (0, 0)).2 x
/-- A word's bits, and the window from then on. -/
def nextW (W : Nat) (s : Win) (x : Nat) : Win := if x = 0 then s else if hasB s (aboveN W x) (belowN x) then s else some (aboveN W x, belowN x)
def stepB (W : Nat) (s : Win) (x : Nat) : List Bool :=
  if x = 0 then [false]
  else if hasB s (aboveN W x) (belowN x) then [true, false] ++ winB W s x
  else [true, true] ++ bitsOf (aboveN W x) 6 ++ bitsOf (8 * W - aboveN W x - belowN x - 1) 6 ++ ownB W (aboveN W x) (belowN x) x
def gorL (W : Nat) : Win → List Nat → List Bool
  | _, [] => []
  | s, x :: t => stepB W s x ++ gorL W (nextW W s x) t
/-- The bits of words that are flipped. -/
def gorB (W : Nat) : List Nat → List Bool
  | [] => []
  | x :: t => bitsOf x (8 * W) ++ gorL W none t
/-- The bits of words. -/
def packB (W : Nat) (l : List Nat) : List Bool := gorB W (flipW W l)

theorem pow_256 (W : Nat) : 256 ^ W = 2 ^ (8 * W) := by rw [Nat.pow_mul]
theorem own_facts {W x : Nat} (hW : W ≤ 8) (h0 : x ≠ 0) (hx : x < 256 ^ W) :
    aboveN W x + belowN x < 8 * W ∧ aboveN W x = 8 * W - Lib.bitLen x ∧ Lib.bitLen x ≤ 8 * W ∧ 1 ≤ Lib.bitLen x ∧ belowN x < 64 ∧ x < 2 ^ (8 * W - aboveN W x) ∧ 2 ^ belowN x * (x / 2 ^ belowN x) = x ∧ belowN x < Lib.bitLen x := by
  have hx2 : x < 2 ^ (8 * W) := by rw [← pow_256]; exact hx
  have hx64 : x < 2 ^ 64 := Nat.lt_of_lt_of_le hx2 (Nat.pow_le_pow_right (by decide) (by omega))
  obtain ⟨h1, h2, h3⟩ := Lib.bitLenAux_bounds 64 x hx64 h0
  have hL : Lib.bitLenAux 64 x = Lib.bitLen x := rfl
  rw [hL] at h1 h2 h3
  have h4 := Lib.bitLen_le x (8 * W) (by omega) hx2
  obtain ⟨m, hm, hk⟩ := Lib.ctzFrom_spec 64 x (by omega) hx64
  have hb : belowN x = Lib.ctzFrom 64 x := by unfold belowN Lib.ctz; rw [if_neg h0]
  rw [← hb] at hm hk
  have h5 : 2 ^ belowN x ≤ x := by
    have : 2 ^ belowN x * 1 ≤ 2 ^ belowN x * (2 * m + 1) := Nat.mul_le_mul_left _ (by omega)
    omega
  have h6 : belowN x < Lib.bitLen x := by
    rcases Nat.lt_or_ge (belowN x) (Lib.bitLen x) with g | g
    · exact g
    · have := Nat.pow_le_pow_right (n := 2) (by decide) g
      omega
  have ha : aboveN W x = 8 * W - Lib.bitLen x := rfl
  refine ⟨by omega, ha, h4, h1, hk, ?_, ?_, h6⟩
  · rw [ha, show 8 * W - (8 * W - Lib.bitLen x) = Lib.bitLen x by omega]; exact h3
  · have e : x / 2 ^ belowN x = 2 * m + 1 := by
      exact Nat.div_eq_of_eq_mul_right (Nat.two_pow_pos _) hm
    rw [e]; exact hm.symm
/-- within a window that has all its ones, a word is told by its bits there -/
theorem own_back {W x a b : Nat} (hW : W ≤ 8) (h0 : x ≠ 0) (hx : x < 256 ^ W) (ha : a ≤ aboveN W x) (hb : b ≤ belowN x) (hab : a + b < 8 * W) :
    valOf (ownB W a b x) * 2 ^ b = x := by
  obtain ⟨h1, h2, h3, h4, h5, h6, h7, h8⟩ := own_facts hW h0 hx
  unfold ownB
  rw [valOf_bitsOf]
  have hd : 2 ^ b * (x / 2 ^ b) = x := by
    obtain ⟨d, hd⟩ : ∃ d, belowN x = b + d := ⟨belowN x - b, by omega⟩
    have : x = 2 ^ b * (2 ^ d * (x / 2 ^ belowN x)) := by rw [← Nat.mul_assoc, ← Nat.pow_add, ← hd, h7]
    rw [Nat.mul_comm]
    exact Nat.div_mul_cancel ⟨_, this⟩
  have hlt : x / 2 ^ b < 2 ^ (8 * W - a - b) := by
    rw [Nat.div_lt_iff_lt_mul (Nat.pow_pos (by decide)), ← Nat.pow_add]
    exact Nat.lt_of_lt_of_le h6 (Nat.pow_le_pow_right (by decide) (by omega))
  rw [Nat.mod_eq_of_lt hlt, Nat.mul_comm]
  exact hd
theorem nextW_ok {W x : Nat} {s : Win} (hW : W ≤ 8) (hx : x < 256 ^ W) (hs : winOk W s) : winOk W (nextW W s x) := by
  unfold nextW
  split
  · exact hs
  · rename_i h0
    split
    · exact hs
    · exact (own_facts hW h0 hx).1
theorem hasB_some {a b : Nat} {s : Win} (h : hasB s a b = true) : ∃ p : Nat × Nat, s = some p ∧ p.1 ≤ a ∧ p.2 ≤ b := by
  cases s with
  | none => cases h
  | some p => exact ⟨p, rfl, by simpa [hasB] using h⟩
theorem stepB_len {W x : Nat} {s : Win} : 1 ≤ (stepB W s x).length ∧ (stepB W s x).length ≤ 8 * W + 14 := by
  unfold stepB
  split
  · simp
  · split
    · simp [winB, ownB, bitsOf_length]; omega
    · simp [ownB, bitsOf_length]; omega
theorem gorL_len (W : Nat) : ∀ (s : Win) (l : List Nat), l.length ≤ (gorL W s l).length ∧ (gorL W s l).length ≤ l.length * (8 * W + 14)
  | s, [] => by simp [gorL]
  | s, x :: t => by
    have h1 := stepB_len (W := W) (x := x) (s := s)
    have h2 := gorL_len W (nextW W s x) t
    simp only [gorL, List.length_append, List.length_cons]
    rw [Nat.add_mul, Nat.one_mul]
    omega
theorem packB_len (W : Nat) (l : List Nat) (h : l ≠ []) : 8 * W + (l.length - 1) ≤ (packB W l).length ∧ (packB W l).length ≤ 8 * W + (l.length - 1) * (8 * W + 14) := by
  have hl := flipW_len W l
  unfold packB
  cases hf : flipW W l with
  | nil => rw [hf] at hl; exact absurd (List.length_eq_zero_iff.1 hl.symm) h
  | cons x t =>
    rw [hf, List.length_cons] at hl
    have := gorL_len W none t
    simp only [gorB, List.length_append, bitsOf_length]
    rw [show l.length - 1 = t.length by omega]
    omega
theorem packB_nil (W : Nat) : packB W [] = [] := rfl
theorem gorL_zero (W : Nat) (s : Win) (n : Nat) : gorL W s (List.replicate n 0) = List.replicate n false := by
  induction n with
  | zero => rfl
  | succ n ih => simp [List.replicate_succ, gorL, stepB, nextW, ih]
/-- words that are all the same -/
theorem flip_still (W v n : Nat) : flipW W (List.replicate (n + 1) v) = v % 256 ^ W :: List.replicate n 0 := by
  have hl := flipW_len W (List.replicate (n + 1) v)
  refine List.ext_getElem (by simp [hl]) fun i h1 h2 => ?_
  simp only [flipW, rowOf, List.length_replicate, List.getElem_map, List.getElem_range, flipAt, ahead]
  cases i with
  | zero => simp
  | succ i =>
    have hi : i + 1 < n + 1 := by simpa using h2
    simp [List.getD_eq_getElem?_getD, hi, show i < n + 1 by omega]
theorem pack_still (W v n : Nat) : (packB W (List.replicate (n + 1) v)).length = 8 * W + n := by
  unfold packB
  rw [flip_still]
  simp [gorB, gorL_zero, bitsOf_length]
end Go.Proofs.YtcenbaajojdjlaaGreatDoor
