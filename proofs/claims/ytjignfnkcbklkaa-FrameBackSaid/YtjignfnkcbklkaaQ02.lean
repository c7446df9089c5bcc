/-
  Plain mathematics of layer 1: bits, and the bytes that have them. · Plain mathematics of layer 2: a number as few bytes, seven bits each.
-/
import Derived.Lib.BitFns
namespace Go.Proofs.Ytjignfnkcbklkaa

end Go.Proofs.Ytjignfnkcbklkaa
namespace Go.Proofs.Ytjignfnkcbklkaa

/-- A number's bytes. -/
def lput (n : Nat) : List UInt8 := if n < 128 then [UInt8.ofNat n] else UInt8.ofNat (128 + n % 128) :: lput (n / 128)
termination_by n
decreasing_by omega

theorem lput_small {n : Nat} (h : n < 128) : lput n = [UInt8.ofNat n] := by rw [lput, if_pos h]
theorem lput_big {n : Nat} (h : ¬ n < 128) : lput n = UInt8.ofNat (128 + n % 128) :: lput (n / 128) := by rw [lput, if_neg h]

theorem lput_len (n : Nat) : n < 18446744073709551616 → (lput n).length = max 1 ((Lib.bitLen n + 6) / 7) := by
  induction n using Nat.strongRecOn with
  | _ n ih =>
    intro hn
    by_cases h : n < 128
    · rw [lput_small h]
      have hb : Lib.bitLen n ≤ 7 := by
        have key : ∀ j : Fin 128, Lib.bitLen j.val ≤ 7 := by decide +kernel
        exact key ⟨n, h⟩
      simp; omega
    · rw [lput_big h, List.length_cons, ih (n / 128) (by omega) (by omega)]
      have s := Lib.bitLen_shift 7 n (by omega) hn
      have e : n / 2 ^ 7 = n / 128 := rfl
      rw [e] at s
      have hp : 1 ≤ Lib.bitLen (n / 128) := by
        have hq : n / 128 ≠ 0 := by omega
        have : Lib.bitLen (n / 128) = 1 + Lib.bitLenAux 63 (n / 128 / 2) := by unfold Lib.bitLen; rw [Lib.bitLenAux, if_neg hq]
        omega
      omega

theorem lput_pos (n : Nat) : 0 < (lput n).length := by
  rw [lput]; split <;> simp
theorem lput_le (n : Nat) (h : n < 18446744073709551616) : (lput n).length ≤ 10 := by
  rw [lput_len n h]
  have : Lib.bitLen n ≤ 64 := Lib.bitLenAux_le 64 n 64 (by omega)
  omega

/-- The number with which bytes begin (behind k of its bytes, whose bits come to acc), how many bytes it has, the error. -/
def lgetF : Nat → Nat → List UInt8 → Nat × Nat × Nat
  | _, _, [] => (0, 0, 11)
  | k, acc, c :: cs =>
    if k = 9 ∧ 1 < c.toNat then (0, 0, 21)
    else if 128 ≤ c.toNat then lgetF (k + 1) (acc + (c.toNat - 128) * 128 ^ k) cs
    else if c.toNat = 0 ∧ 0 < k then (0, 0, 21)
    else (acc + c.toNat * 128 ^ k, k + 1, 0)
def lget (l : List UInt8) : Nat × Nat × Nat := lgetF 0 0 l

theorem toNat_ofNat8 {n : Nat} (h : n < 256) : (UInt8.ofNat n).toNat = n := by simp [UInt8.toNat_ofNat']; omega

theorem pow128_9 : (128 : Nat) ^ 9 = 9223372036854775808 := by decide
theorem pow128_mono {k : Nat} (h : k ≤ 9) : (128 : Nat) ^ k ≤ 9223372036854775808 := by
  rw [← pow128_9]; exact Nat.pow_le_pow_right (by decide) h
theorem pow128_pos (k : Nat) : 0 < (128 : Nat) ^ k := Nat.pow_pos (by decide)
theorem pow128_split {k : Nat} (h : k ≤ 9) : ∃ q, 0 < q ∧ 18446744073709551616 = 2 * q * 128 ^ k ∧ q = 128 ^ (9 - k) := by
  refine ⟨128 ^ (9 - k), pow128_pos _, ?_, rfl⟩
  have : (128 : Nat) ^ (9 - k) * 128 ^ k = 128 ^ 9 := by rw [← Nat.pow_add]; congr 1; omega
  rw [Nat.mul_assoc, this, pow128_9]
/-- the tenth byte has room for one bit -/
theorem ninth {n : Nat} (h : n * 128 ^ 9 < 18446744073709551616) : n ≤ 1 := by rw [pow128_9] at h; omega

theorem lgetF_put : ∀ (n k acc : Nat) (more : List UInt8), k ≤ 9 → n * 128 ^ k < 18446744073709551616 → (0 < k → n ≠ 0) →
    lgetF k acc (lput n ++ more) = (acc + n * 128 ^ k, k + (lput n).length, 0) := by
  intro n
  induction n using Nat.strongRecOn with
  | _ n ih =>
    intro k acc more hk hn h0
    by_cases h : n < 128
    · rw [lput_small h]
      have hc : (UInt8.ofNat n).toNat = n := toNat_ofNat8 (by omega)
      simp only [List.cons_append, List.nil_append, lgetF, hc]
      have g1 : ¬ (k = 9 ∧ 1 < n) := by rintro ⟨rfl, g⟩; have := ninth hn; omega
      have g3 : ¬ (n = 0 ∧ 0 < k) := by rintro ⟨g, g'⟩; exact h0 g' g
      rw [if_neg g1, if_neg (by omega), if_neg g3]; rfl
    · rw [lput_big h]
      have hc : (UInt8.ofNat (128 + n % 128)).toNat = 128 + n % 128 := toNat_ofNat8 (by omega)
      simp only [List.cons_append, lgetF, hc]
      have hk8 : k ≤ 8 := by
        rcases Nat.lt_or_ge k 9 with g | g
        · omega
        · have : k = 9 := by omega
          subst this; have := ninth hn; omega
      have hsplit : n / 128 * 128 ^ (k + 1) + (n % 128) * 128 ^ k = n * 128 ^ k := by
        rw [Nat.pow_succ, Nat.mul_comm (128 ^ k) 128, ← Nat.mul_assoc, ← Nat.add_mul]; congr 1; omega
      rw [if_neg (by omega), if_pos (by omega), ih (n / 128) (by omega) (k + 1) _ more (by omega) (by omega) (by omega)]
      simp only [Nat.add_sub_cancel_left, List.length_cons, Prod.mk.injEq, and_true]
      omega

theorem lgetF_cut : ∀ (n k acc at_ : Nat), k ≤ 9 → n * 128 ^ k < 18446744073709551616 → at_ < (lput n).length → lgetF k acc ((lput n).take at_) = (0, 0, 11) := by
  intro n
  induction n using Nat.strongRecOn with
  | _ n ih =>
    intro k acc at_ hk hn hat
    cases at_ with
    | zero => simp [lgetF]
    | succ at_ =>
      by_cases h : n < 128
      · rw [lput_small h] at hat; simp at hat
      · rw [lput_big h] at hat ⊢
        have hc : (UInt8.ofNat (128 + n % 128)).toNat = 128 + n % 128 := toNat_ofNat8 (by omega)
        simp only [List.take_succ_cons, lgetF, hc]
        have hk8 : k ≤ 8 := by
          rcases Nat.lt_or_ge k 9 with g | g
          · omega
          · have : k = 9 := by omega
            subst this; have := ninth hn; omega
        have hsplit : n / 128 * 128 ^ (k + 1) + (n % 128) * 128 ^ k = n * 128 ^ k := by
          rw [Nat.pow_succ, Nat.mul_comm (128 ^ k) 128, ← Nat.mul_assoc, ← Nat.add_mul]; congr 1; omega
        rw [if_neg (by omega), if_pos (by omega), ih (n / 128) (by omega) (k + 1) _ at_ (by omega) (by omega) (by simpa using hat)]

/-- What is told of any bytes. -/
theorem lgetF_told : ∀ (l : List UInt8) (k acc : Nat), k ≤ 9 →
    (∃ n, lgetF k acc l = (acc + n * 128 ^ k, k + (lput n).length, 0) ∧ n * 128 ^ k < 18446744073709551616 ∧ (0 < k → n ≠ 0) ∧ (lput n).length ≤ l.length ∧ l.take (lput n).length = lput n) ∨
    lgetF k acc l = (0, 0, 11) ∨ lgetF k acc l = (0, 0, 21) := by
  intro l
  induction l with
  | nil => intro k acc _; exact .inr (.inl rfl)
  | cons c cs ih =>
    intro k acc hk
    have hc := c.toNat_lt
    by_cases h1 : k = 9 ∧ 1 < c.toNat
    · right; right; simp only [lgetF]; rw [if_pos h1]
    by_cases h2 : 128 ≤ c.toNat
    · have hk8 : k ≤ 8 := by omega
      have e : lgetF k acc (c :: cs) = lgetF (k + 1) (acc + (c.toNat - 128) * 128 ^ k) cs := by simp only [lgetF]; rw [if_neg h1, if_pos h2]
      rw [e]
      rcases ih (k + 1) (acc + (c.toNat - 128) * 128 ^ k) (by omega) with ⟨n, hn, hb, h0, hl, ht⟩ | hh | hh
      · left
        have hn0 := h0 (by omega)
        have hbig : ¬ (c.toNat - 128) + 128 * n < 128 := by omega
        have hput : lput ((c.toNat - 128) + 128 * n) = c :: lput n := by
          rw [lput_big hbig]
          have e1 : ((c.toNat - 128) + 128 * n) % 128 = c.toNat - 128 := by omega
          have e2 : ((c.toNat - 128) + 128 * n) / 128 = n := by omega
          rw [e1, e2, show 128 + (c.toNat - 128) = c.toNat by omega]
          congr 1
          exact UInt8.toNat_inj.1 (toNat_ofNat8 hc)
        refine ⟨(c.toNat - 128) + 128 * n, ?_, ?_, by omega, ?_, ?_⟩
        · rw [hn, hput, List.length_cons]
          have : (c.toNat - 128 + 128 * n) * 128 ^ k = (c.toNat - 128) * 128 ^ k + n * 128 ^ (k + 1) := by
            rw [Nat.add_mul, Nat.pow_succ]; congr 1; rw [Nat.mul_comm 128 n, Nat.mul_assoc, Nat.mul_comm 128]
          simp only [Prod.mk.injEq, and_true]
          omega
        · obtain ⟨q, hq, hqe, _⟩ := pow128_split (k := k + 1) (by omega)
          have hp := pow128_pos (k + 1)
          have h3 : n < 2 * q := by
            rcases Nat.lt_or_ge n (2 * q) with g | g
            · exact g
            · have := Nat.mul_le_mul_right (128 ^ (k + 1)) g
              omega
          have h4 : (n + 1) * 128 ^ (k + 1) ≤ 2 * q * 128 ^ (k + 1) := Nat.mul_le_mul_right _ h3
          have h5 : (c.toNat - 128 + 128 * n) * 128 ^ k < (n + 1) * 128 ^ (k + 1) := by
            have e3 : (n + 1) * 128 ^ (k + 1) = ((n + 1) * 128) * 128 ^ k := by rw [Nat.pow_succ, Nat.mul_assoc, Nat.mul_comm 128]
            rw [e3]
            exact Nat.mul_lt_mul_of_pos_right (by omega) (pow128_pos k)
          omega
        · rw [hput]; simpa using hl
        · rw [hput]; simp [ht]
      · exact .inr (.inl hh)
      · exact .inr (.inr hh)
    by_cases h3 : c.toNat = 0 ∧ 0 < k
    · right; right; simp only [lgetF]; rw [if_neg h1, if_neg h2, if_pos h3]
    · left
      have hput : lput c.toNat = [c] := by
        rw [lput_small (by omega)]
        congr 1
        exact UInt8.toNat_inj.1 (toNat_ofNat8 hc)
      refine ⟨c.toNat, ?_, ?_, fun g g' => h3 ⟨g', g⟩, ?_, ?_⟩
      · rw [hput]; simp only [lgetF]; rw [if_neg h1, if_neg h2, if_neg h3]; rfl
      · rcases Nat.lt_or_ge k 9 with g | g
        · have h6 : 128 ^ (k + 1) ≤ 9223372036854775808 := pow128_mono (by omega)
          have h7 : c.toNat * 128 ^ k < 128 ^ (k + 1) := by
            rw [Nat.pow_succ, Nat.mul_comm (128 ^ k)]
            exact Nat.mul_lt_mul_of_pos_right (by omega) (pow128_pos k)
          omega
        · have : k = 9 := by omega
          subst this
          have : c.toNat ≤ 1 := by omega
          have := Nat.mul_le_mul_right (128 ^ 9) this
          rw [pow128_9] at this ⊢
          omega
      · rw [hput]; simp
      · rw [hput]; simp

theorem lget_put (n : Nat) (more : List UInt8) (h : n < 18446744073709551616) : lget (lput n ++ more) = (n, (lput n).length, 0) := by
  have := lgetF_put n 0 0 more (by omega) (by simpa using h) (by omega)
  simpa [lget] using this
theorem lget_cut (n at_ : Nat) (h : n < 18446744073709551616) (hat : at_ < (lput n).length) : lget ((lput n).take at_) = (0, 0, 11) :=
  lgetF_cut n 0 0 at_ (by omega) (by simpa using h) hat
theorem lget_told (l : List UInt8) : (∃ n, lget l = (n, (lput n).length, 0) ∧ n < 18446744073709551616 ∧ (lput n).length ≤ l.length ∧ l.take (lput n).length = lput n) ∨ lget l = (0, 0, 11) ∨ lget l = (0, 0, 21) := by
  rcases lgetF_told l 0 0 (by omega) with ⟨n, hn, hb, _, hl, ht⟩ | h | h
  · exact .inl ⟨n, by simpa [lget] using hn, by simpa using hb, hl, ht⟩
  · exact .inr (.inl h)
  · exact .inr (.inr h)

end Go.Proofs.Ytjignfnkcbklkaa
