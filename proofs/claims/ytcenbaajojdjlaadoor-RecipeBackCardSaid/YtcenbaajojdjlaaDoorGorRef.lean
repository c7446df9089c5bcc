/- Contracts of layer 9's reference: Window, power. -/
import Derived.Test.YtcenbaajojdjlaaDoorGorWin
namespace Go.Proofs.YtcenbaajojdjlaaDoor
open Go.RowKit

/-- What holds at the head of a round of the loop that counts the noughts below. -/
def RBelRel (x : Nat) (c v : Value) : Prop := ∃ j : Nat, j ≤ belowN x ∧ c = .int .i64 (j : Int) ∧ v = .int .u64 ((x / 2 ^ j : Nat) : Int)
/-- .. of the loop that counts the bits -/
def RHighRel (x : Nat) (c v : Value) : Prop := ∃ j : Nat, j ≤ Lib.bitLen x ∧ c = .int .i64 (j : Int) ∧ v = .int .u64 ((x / 2 ^ j : Nat) : Int)
theorem div_two (x j : Nat) : ((x / 2 ^ j : Nat) : Int) / 2 = ((x / 2 ^ (j + 1) : Nat) : Int) := by
  rw [Nat.pow_succ, ← Nat.div_div_eq_div_mul]
  omega
theorem wrap_div {x : Nat} (hx : x < 2 ^ 64) (j : Nat) : IntKind.u64.wrap ((x / 2 ^ j : Nat) : Int) = ((x / 2 ^ j : Nat) : Int) := by
  have := Nat.div_le_self x (2 ^ j)
  generalize x / 2 ^ j = q at *
  rw [IntKind.wrap_u64]
  omega
theorem below_par {x j : Nat} (h0 : x ≠ 0) (hx : x < 2 ^ 64) (hj : j ≤ belowN x) : (x / 2 ^ j) % 2 = if j < belowN x then 0 else 1 := by
  obtain ⟨m, hm, hk⟩ := Lib.ctzFrom_spec 64 x (by omega) hx
  have hb : belowN x = Lib.ctzFrom 64 x := by unfold belowN Lib.ctz; rw [if_neg h0]
  rw [← hb] at hm hk
  obtain ⟨d, hd⟩ : ∃ d, belowN x = j + d := ⟨belowN x - j, by omega⟩
  have e : x / 2 ^ j = 2 ^ d * (2 * m + 1) := by
    refine Nat.div_eq_of_eq_mul_right (Nat.two_pow_pos _) ?_
    rw [← Nat.mul_assoc, ← Nat.pow_add, ← hd]
    exact hm
  rw [e]
  cases d with
  | zero =>
    rw [if_neg (by omega)]
    omega
  | succ d =>
    rw [if_pos (by omega), Nat.pow_succ, Nat.mul_comm (2 ^ d) 2, Nat.mul_assoc]
    omega
theorem high_pos {x j : Nat} (h0 : x ≠ 0) (hx : x < 2 ^ 64) : 0 < x / 2 ^ j ↔ j < Lib.bitLen x := by
  obtain ⟨h1, h2, h3⟩ := Lib.bitLenAux_bounds 64 x hx h0
  have hL : Lib.bitLenAux 64 x = Lib.bitLen x := rfl
  rw [hL] at h1 h2 h3
  constructor
  · intro h
    rcases Nat.lt_or_ge j (Lib.bitLen x) with g | g
    · exact g
    · have := Nat.pow_le_pow_right (n := 2) (by decide) g
      rw [Nat.div_eq_of_lt (by omega)] at h
      omega
  · intro h
    have : 2 ^ j ≤ 2 ^ (Lib.bitLen x - 1) := Nat.pow_le_pow_right (by decide) (by omega)
    exact Nat.div_pos (by omega) (Nat.two_pow_pos _)
theorem pow_step {k n : Nat} (hk : k < n) (hn : n ≤ 63) : IntKind.u64.wrap (2 * ((2 ^ k : Nat) : Int)) = ((2 ^ (k + 1) : Nat) : Int) := by
  have h := Nat.pow_le_pow_right (n := 2) (by decide) (show k + 1 ≤ 63 by omega)
  have e : 2 * ((2 ^ k : Nat) : Int) = ((2 ^ (k + 1) : Nat) : Int) := by rw [Nat.pow_succ]; omega
  rw [e]
  generalize 2 ^ (k + 1) = q at *
  rw [IntKind.wrap_u64]
  omega
def PowRel (n : Nat) (v i : Value) : Prop := ∃ k : Nat, k ≤ n ∧ i = .int .i64 (k : Int) ∧ v = .int .u64 ((2 ^ k : Nat) : Int)
end Go.Proofs.YtcenbaajojdjlaaDoor
