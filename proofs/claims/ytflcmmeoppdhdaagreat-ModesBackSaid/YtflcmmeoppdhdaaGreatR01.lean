/-
  Plain mathematics of layer 1: bits, and the bytes that have them. · Plain mathematics of layer 2: a number as few bytes, seven bits each. · What a sticky reader tells, as plain functions of its bits and its error. · Plain mathematics of layer 19: words by a parameter that follows them, as bits, and back. Written ahead of the code.
-/
import Derived.Lib.BitFns
namespace Go.Proofs.YtflcmmeoppdhdaaGreat

/-- The bit at place i of bytes, the lowest of each byte first; none behind the end. -/
def bitAt (bs : List UInt8) (i : Nat) : Bool := (bs.getD (i / 8) 0).toNat.testBit (i % 8)
/-- The bytes that have just these bits, and noughts that fill up the last. -/
def Packs (bs : List UInt8) (l : List Bool) : Prop := bs.length = (l.length + 7) / 8 ∧ ∀ i, bitAt bs i = l.getD i false
/-- A number's n lowest bits. -/
def bitsOf (v n : Nat) : List Bool := (List.range n).map v.testBit
/-- n ones, and a nought, if n is below most. -/
def onesOf (n most : Nat) : List Bool := List.replicate n true ++ if n < most then [false] else []
/-- The number that bits are. -/
def valOf : List Bool → Nat
  | [] => 0
  | b :: r => b.toNat + 2 * valOf r
/-- The bits of bytes. -/
def allBits (bs : List UInt8) : List Bool := (List.range (8 * bs.length)).map (bitAt bs)

theorem allBits_length (bs : List UInt8) : (allBits bs).length = 8 * bs.length := by simp [allBits]
theorem allBits_get (bs : List UInt8) (i : Nat) (h : i < 8 * bs.length) : (allBits bs)[i]? = some (bitAt bs i) := by simp [allBits, h]
theorem bitsOf_length (v n : Nat) : (bitsOf v n).length = n := by simp [bitsOf]
theorem bitsOf_succ (v n : Nat) : bitsOf v (n + 1) = bitsOf v n ++ [v.testBit n] := by simp [bitsOf, List.range_succ]

theorem u8_ext {a b : UInt8} (h : ∀ j, j < 8 → a.toNat.testBit j = b.toNat.testBit j) : a = b := by
  apply UInt8.toNat_inj.1
  apply Nat.eq_of_testBit_eq
  intro j
  rcases Nat.lt_or_ge j 8 with g | g
  · exact h j g
  · have p : (2 : Nat) ^ 8 ≤ 2 ^ j := Nat.pow_le_pow_right (by decide) g
    have ha := a.toNat_lt
    have hb := b.toNat_lt
    rw [Nat.testBit_lt_two_pow (by omega), Nat.testBit_lt_two_pow (by omega)]

theorem Packs.unique {a b : List UInt8} {l : List Bool} (ha : Packs a l) (hb : Packs b l) : a = b := by
  apply List.ext_getElem (ha.1.trans hb.1.symm)
  intro k h1 h2
  apply u8_ext
  intro j hj
  have ea := ha.2 (8 * k + j)
  have eb := hb.2 (8 * k + j)
  rw [← eb] at ea
  simp only [bitAt] at ea
  have q : (8 * k + j) / 8 = k := by omega
  have r : (8 * k + j) % 8 = j := by omega
  rw [q, r] at ea
  simpa [List.getD_eq_getElem?_getD, h1, h2] using ea

theorem Packs.nil : Packs [] [] := ⟨rfl, fun i => by simp [bitAt]⟩

/-- One bit more, laid into the byte that has room for it. -/
theorem Packs.snoc {bs : List UInt8} {l : List Bool} (h : Packs bs l) (b : Bool) (bs' : List UInt8) (hbs : bs' = if l.length % 8 = 0 then bs ++ [0] else bs) (c : UInt8)
    (hc : c.toNat = (bs'.getD (l.length / 8) 0).toNat ||| b.toNat <<< (l.length % 8)) : Packs (bs'.set (l.length / 8) c) (l ++ [b]) := by
  have hlen : bs'.length = ((l ++ [b]).length + 7) / 8 := by
    rw [hbs]
    have := h.1
    split <;> simp <;> omega
  have hin : l.length / 8 < bs'.length := by rw [hlen]; simp; omega
  have hbit : ∀ i, bitAt bs' i = l.getD i false := by
    intro i
    rw [← h.2 i, hbs]
    split
    · simp only [bitAt, List.getD_eq_getElem?_getD, List.getElem?_append]
      split
      · rfl
      · rename_i g
        rw [List.getElem?_eq_none (l := bs) (by omega)]
        cases hz : i / 8 - bs.length <;> simp
    · rfl
  refine ⟨by simpa using hlen, fun i => ?_⟩
  by_cases hi : i / 8 = l.length / 8
  · have hb2 := hbit i
    simp only [bitAt, hi] at hb2 ⊢
    rw [List.getD_eq_getElem?_getD, List.getElem?_set_self hin, Option.getD_some, hc, Nat.testBit_or, hb2, Nat.testBit_shiftLeft]
    simp only [List.getD_eq_getElem?_getD, List.getElem?_append]
    by_cases hil : i < l.length
    · rw [if_pos hil]
      have : ¬ (i % 8 ≥ l.length % 8) := by omega
      simp [this]
    · rw [if_neg hil, List.getElem?_eq_none (l := l) (by omega)]
      by_cases hie : i = l.length
      · subst hie
        cases b <;> simp
      · have g1 : i % 8 ≥ l.length % 8 := by omega
        have g2 : i % 8 - l.length % 8 ≠ 0 := by omega
        rw [List.getElem?_eq_none (by simp; omega)]
        obtain ⟨m, hm⟩ : ∃ m, i % 8 - l.length % 8 = m + 1 := ⟨i % 8 - l.length % 8 - 1, by omega⟩
        cases b <;> simp [g1, hm, Nat.testBit_succ]
  · have : bitAt (bs'.set (l.length / 8) c) i = bitAt bs' i := by
      simp only [bitAt, List.getD_eq_getElem?_getD, List.getElem?_set_ne (Ne.symm hi)]
    rw [this, hbit]
    simp only [List.getD_eq_getElem?_getD, List.getElem?_append]
    split
    · rfl
    · rename_i g
      have hne : i - l.length ≠ 0 := by omega
      rw [List.getElem?_eq_none (l := l) (by omega), List.getElem?_eq_none (by simp; omega)]

theorem Packs.all {bs : List UInt8} {l : List Bool} (h : Packs bs l) : allBits bs = l ++ List.replicate (8 * bs.length - l.length) false := by
  have := h.1
  apply List.ext_getElem?
  intro i
  rcases Nat.lt_or_ge i (8 * bs.length) with g | g
  · rw [allBits_get bs i g, h.2 i, List.getElem?_append]
    split
    · rename_i g2; simp [List.getD_eq_getElem?_getD, g2]
    · rename_i g2
      rw [List.getElem?_replicate, if_pos (by omega), List.getD_eq_getElem?_getD, List.getElem?_eq_none (by omega)]
      rfl
  · rw [List.getElem?_eq_none (by rw [allBits_length]; omega), List.getElem?_eq_none (by simp; omega)]

theorem allBits_snoc (bs : List UInt8) (b : UInt8) : allBits (bs ++ [b]) = allBits bs ++ bitsOf b.toNat 8 := by
  apply List.ext_getElem?
  intro i
  rw [List.getElem?_append, allBits_length]
  split
  · rename_i h
    rw [allBits_get bs i h, allBits_get _ i (by simp; omega)]
    simp only [bitAt, List.getD_eq_getElem?_getD]
    rw [List.getElem?_append_left (by omega)]
  · rename_i h
    rcases Nat.lt_or_ge i (8 * bs.length + 8) with g | g
    · rw [allBits_get _ i (by simp; omega)]
      simp only [bitAt, bitsOf, List.getD_eq_getElem?_getD]
      rw [List.getElem?_append_right (by omega), show i / 8 - bs.length = 0 by omega, show i % 8 = i - 8 * bs.length by omega]
      simp [show i - 8 * bs.length < 8 by omega]
    · rw [List.getElem?_eq_none (by rw [allBits_length]; simp; omega), List.getElem?_eq_none (by rw [bitsOf_length]; omega)]
theorem valOf_lt : ∀ l : List Bool, valOf l < 2 ^ l.length
  | [] => by simp [valOf]
  | b :: r => by
    have := valOf_lt r
    have hb : b.toNat ≤ 1 := by cases b <;> simp
    simp only [valOf, List.length_cons, Nat.pow_succ]
    omega
theorem valOf_snoc : ∀ (l : List Bool) (b : Bool), valOf (l ++ [b]) = valOf l + b.toNat * 2 ^ l.length
  | [], b => by simp [valOf]
  | a :: r, b => by
    simp only [List.cons_append, valOf, valOf_snoc r b, List.length_cons, Nat.pow_succ]
    rw [← Nat.mul_assoc]
    omega
theorem valOf_bitsOf (v n : Nat) : valOf (bitsOf v n) = v % 2 ^ n := by
  induction n with
  | zero => simp [bitsOf, valOf, Nat.mod_one]
  | succ n ih =>
    rw [bitsOf_succ, valOf_snoc, ih, bitsOf_length, Nat.mod_pow_succ, Nat.testBit_eq_decide_div_mod_eq]
    rcases Nat.mod_two_eq_zero_or_one (v / 2 ^ n) with h | h <;> simp [h, Nat.mul_comm]
end Go.Proofs.YtflcmmeoppdhdaaGreat
namespace Go.Proofs.YtflcmmeoppdhdaaGreat

/-- A number's bytes. -/
def lput (n : Nat) : List UInt8 := if n < 128 then [UInt8.ofNat n] else UInt8.ofNat (128 + n % 128) :: lput (n / 128)
termination_by n
decreasing_by omega

theorem lput_small {n : Nat} (h : n < 128) : lput n = [UInt8.ofNat n] := by rw [lput, if_pos h]
theorem lput_big {n : Nat} (h : ¬ n < 128) : lput n = UInt8.ofNat (128 + n % 128) :: lput (n / 128) := by rw [lput, if_neg h]

theorem lput_len (n : Nat) : n < 18446744073709551616 → (lput n).length = max 1 ((Lib.bitLen n + 6) / 7) := by
  induction n using Nat.strongRecOn with
  | _ n ih =>
    intro hn
    by_cases h : n < 128
    · rw [lput_small h]
      have hb : Lib.bitLen n ≤ 7 := by
        have key : ∀ j : Fin 128, Lib.bitLen j.val ≤ 7 := by decide +kernel
        exact key ⟨n, h⟩
      simp; omega
    · rw [lput_big h, List.length_cons, ih (n / 128) (by omega) (by omega)]
      have s := Lib.bitLen_shift 7 n (by omega) hn
      have e : n / 2 ^ 7 = n / 128 := rfl
      rw [e] at s
      have hp : 1 ≤ Lib.bitLen (n / 128) := by
        have hq : n / 128 ≠ 0 := by omega
        have : Lib.bitLen (n / 128) = 1 + Lib.bitLenAux 63 (n / 128 / 2) := by unfold Lib.bitLen; rw [Lib.bitLenAux, if_neg hq]
        omega
      omega

theorem lput_pos (n : Nat) : 0 < (lput n).length := by
  rw [lput]; split <;> simp
theorem lput_le (n : Nat) (h : n < 18446744073709551616) : (lput n).length ≤ 10 := by
  rw [lput_len n h]
  have : Lib.bitLen n ≤ 64 := Lib.bitLenAux_le 64 n 64 (by omega)
  omega

/-- The number with which bytes begin (behind k of its bytes, whose bits come to acc), how many bytes it has, the error. -/
def lgetF : Nat → Nat → List UInt8 → Nat × Nat × Nat
  | _, _, [] => (0, 0, 11)
  | k, acc, c :: cs =>
    if k = 9 ∧ 1 < c.toNat then (0, 0, 21)
    else if 128 ≤ c.toNat then lgetF (k + 1) (acc + (c.toNat - 128) * 128 ^ k) cs
    else if c.toNat = 0 ∧ 0 < k then (0, 0, 21)
    else (acc + c.toNat * 128 ^ k, k + 1, 0)
def lget (l : List UInt8) : Nat × Nat × Nat := lgetF 0 0 l

theorem toNat_ofNat8 {n : Nat} (h : n < 256) : (UInt8.ofNat n).toNat = n := by simp [UInt8.toNat_ofNat']; omega

theorem pow128_9 : (128 : Nat) ^ 9 = 9223372036854775808 := by decide
theorem pow128_mono {k : Nat} (h : k ≤ 9) : (128 : Nat) ^ k ≤ 9223372036854775808 := by
  rw [← pow128_9]; exact Nat.pow_le_pow_right (by decide) h
theorem pow128_pos (k : Nat) : 0 < (128 : Nat) ^ k := Nat.pow_pos (by decide)
theorem pow128_split {k : Nat} (h : k ≤ 9) : ∃ q, 0 < q ∧ 18446744073709551616 = 2 * q * 128 ^ k ∧ q = 128 ^ (9 - k) := by
  refine ⟨128 ^ (9 - k), pow128_pos _, ?_, rfl⟩
  have : (128 : Nat) ^ (9 - k) * 128 ^ k = 128 ^ 9 := by rw [← Nat.pow_add]; congr 1; omega
  rw [Nat.mul_assoc, this, pow128_9]
/-- the tenth byte has room for one bit -/
theorem ninth {n : Nat} (h : n * 128 ^ 9 < 18446744073709551616) : n ≤ 1 := by rw [pow128_9] at h; omega

theorem lgetF_put : ∀ (n k acc : Nat) (more : List UInt8), k ≤ 9 → n * 128 ^ k < 18446744073709551616 → (0 < k → n ≠ 0) →
    lgetF k acc (lput n ++ more) = (acc + n * 128 ^ k, k + (lput n).length, 0) := by
  intro n
  induction n using Nat.strongRecOn with
  | _ n ih =>
    intro k acc more hk hn h0
    by_cases h : n < 128
    · rw [lput_small h]
      have hc : (UInt8.ofNat n).toNat = n := toNat_ofNat8 (by omega)
      simp only [List.cons_append, List.nil_append, lgetF, hc]
      have g1 : ¬ (k = 9 ∧ 1 < n) := by rintro ⟨rfl, g⟩; have := ninth hn; omega
      have g3 : ¬ (n = 0 ∧ 0 < k) := by rintro ⟨g, g'⟩; exact h0 g' g
      rw [if_neg g1, if_neg (by omega), if_neg g3]; rfl
    · rw [lput_big h]
      have hc : (UInt8.ofNat (128 + n % 128)).toNat = 128 + n % 128 := toNat_ofNat8 (by omega)
      simp only [List.cons_append, lgetF, hc]
      have hk8 : k ≤ 8 := by
        rcases Nat.lt_or_ge k 9 with g | g
        · omega
        · have : k = 9 := by omega
          subst this; have := ninth hn; omega
      have hsplit : n / 128 * 128 ^ (k + 1) + (n % 128) * 128 ^ k = n * 128 ^ k := by
        rw [Nat.pow_succ, Nat.mul_comm (128 ^ k) 128, ← Nat.mul_assoc, ← Nat.add_mul]; congr 1; omega
      rw [if_neg (by omega), if_pos (by omega), ih (n / 128) (by omega) (k + 1) _ more (by omega) (by omega) (by omega)]
      simp only [Nat.add_sub_cancel_left, List.length_cons, Prod.mk.injEq, and_true]
      omega

/-- What is told of any bytes. -/
theorem lgetF_told : ∀ (l : List UInt8) (k acc : Nat), k ≤ 9 →
    (∃ n, lgetF k acc l = (acc + n * 128 ^ k, k + (lput n).length, 0) ∧ n * 128 ^ k < 18446744073709551616 ∧ (0 < k → n ≠ 0) ∧ (lput n).length ≤ l.length ∧ l.take (lput n).length = lput n) ∨
    lgetF k acc l = (0, 0, 11) ∨ lgetF k acc l = (0, 0, 21) := by
  intro l
  induction l with
  | nil => intro k acc _; exact .inr (.inl rfl)
  | cons c cs ih =>
    intro k acc hk
    have hc := c.toNat_lt
    by_cases h1 : k = 9 ∧ 1 < c.toNat
    · right; right; simp only [lgetF]; rw [if_pos h1]
    by_cases h2 : 128 ≤ c.toNat
    · have hk8 : k ≤ 8 := by omega
      have e : lgetF k acc (c :: cs) = lgetF (k + 1) (acc + (c.toNat - 128) * 128 ^ k) cs := by simp only [lgetF]; rw [if_neg h1, if_pos h2]
      rw [e]
      rcases ih (k + 1) (acc + (c.toNat - 128) * 128 ^ k) (by omega) with ⟨n, hn, hb, h0, hl, ht⟩ | hh | hh
      · left
        have hn0 := h0 (by omega)
        have hbig : ¬ (c.toNat - 128) + 128 * n < 128 := by omega
        have hput : lput ((c.toNat - 128) + 128 * n) = c :: lput n := by
          rw [lput_big hbig]
          have e1 : ((c.toNat - 128) + 128 * n) % 128 = c.toNat - 128 := by omega
          have e2 : ((c.toNat - 128) + 128 * n) / 128 = n := by omega
          rw [e1, e2, show 128 + (c.toNat - 128) = c.toNat by omega]
          congr 1
          exact UInt8.toNat_inj.1 (toNat_ofNat8 hc)
        refine ⟨(c.toNat - 128) + 128 * n, ?_, ?_, by omega, ?_, ?_⟩
        · rw [hn, hput, List.length_cons]
          have : (c.toNat - 128 + 128 * n) * 128 ^ k = (c.toNat - 128) * 128 ^ k + n * 128 ^ (k + 1) := by
            rw [Nat.add_mul, Nat.pow_succ]; congr 1; rw [Nat.mul_comm 128 n, Nat.mul_assoc, Nat.mul_comm 128]
          simp only [Prod.mk.injEq, and_true]
          omega
        · obtain ⟨q, hq, hqe, _⟩ := pow128_split (k := k + 1) (by omega)
          have hp := pow128_pos (k + 1)
          have h3 : n < 2 * q := by
            rcases Nat.lt_or_ge n (2 * q) with g | g
            · exact g
            · have := Nat.mul_le_mul_right (128 ^ (k + 1)) g
              omega
          have h4 : (n + 1) * 128 ^ (k + 1) ≤ 2 * q * 128 ^ (k + 1) := Nat.mul_le_mul_right _ h3
          have h5 : (c.toNat - 128 + 128 * n) * 128 ^ k < (n + 1) * 128 ^ (k + 1) := by
            have e3 : (n + 1) * 128 ^ (k + 1) = ((n + 1) * 128) * 128 ^ k := by rw [Nat.pow_succ, Nat.mul_assoc, Nat.mul_comm 128]
            rw [e3]
            exact Nat.mul_lt_mul_of_pos_right (by omega) (pow128_pos k)
          omega
        · rw [hput]; simpa using hl
        · rw [hput]; simp [ht]
      · exact .inr (.inl hh)
      · exact .inr (.inr hh)
    by_cases h3 : c.toNat = 0 ∧ 0 < k
    · right; right; simp only [lgetF]; rw [if_neg h1, if_neg h2, if_pos h3]
    · left
      have hput : lput c.toNat = [c] := by
        rw [lput_small (by omega)]
        congr 1
        exact UInt8.toNat_inj.1 (toNat_ofNat8 hc)
      refine ⟨c.toNat, ?_, ?_, fun g g' => h3 ⟨g', g⟩, ?_, ?_⟩
      · rw [hput]; simp only [lgetF]; rw [if_neg h1, if_neg h2, if_neg h3]; rfl
      · rcases Nat.lt_or_ge k 9 with g | g
        · have h6 : 128 ^ (k + 1) ≤ 9223372036854775808 := pow128_mono (by omega)
          have h7 : c.toNat * 128 ^ k < 128 ^ (k + 1) := by
            rw [Nat.pow_succ, Nat.mul_comm (128 ^ k)]
            exact Nat.mul_lt_mul_of_pos_right (by omega) (pow128_pos k)
          omega
        · have : k = 9 := by omega
          subst this
          have : c.toNat ≤ 1 := by omega
          have := Nat.mul_le_mul_right (128 ^ 9) this
          rw [pow128_9] at this ⊢
          omega
      · rw [hput]; simp
      · rw [hput]; simp

theorem lget_put (n : Nat) (more : List UInt8) (h : n < 18446744073709551616) : lget (lput n ++ more) = (n, (lput n).length, 0) := by
  have := lgetF_put n 0 0 more (by omega) (by simpa using h) (by omega)
  simpa [lget] using this
theorem lget_told (l : List UInt8) : (∃ n, lget l = (n, (lput n).length, 0) ∧ n < 18446744073709551616 ∧ (lput n).length ≤ l.length ∧ l.take (lput n).length = lput n) ∨ lget l = (0, 0, 11) ∨ lget l = (0, 0, 21) := by
  rcases lgetF_told l 0 0 (by omega) with ⟨n, hn, hb, _, hl, ht⟩ | h | h
  · exact .inl ⟨n, by simpa [lget] using hn, by simpa using hb, hl, ht⟩
  · exact .inr (.inl h)
  · exact .inr (.inr h)

/-- What a number of n bits is, and what is left: of a reader's state. -/
def getV (s : List Bool × Nat) (n : Nat) : Nat := if s.2 = 0 ∧ n ≤ s.1.length then valOf (s.1.take n) else 0
def getS (s : List Bool × Nat) (n : Nat) : List Bool × Nat := if s.2 = 0 then (if n ≤ s.1.length then (s.1.drop n, 0) else (s.1, 11)) else s
theorem getV_lt (s : List Bool × Nat) (n : Nat) : getV s n < 2 ^ n := by
  unfold getV
  split
  · have := valOf_lt (s.1.take n)
    rw [List.length_take, Nat.min_eq_left (by omega)] at this
    exact this
  · exact Nat.two_pow_pos n
end Go.Proofs.YtflcmmeoppdhdaaGreat
namespace Go.Proofs.YtflcmmeoppdhdaaGreat

/-- What is told of what is left, when all words have been taken. -/
def doneE (s : List Bool × Nat) : Nat := if s.2 ≠ 0 then s.2 else if 8 ≤ s.1.length then 22 else if s.1.any id = true then 16 else 0
theorem any_split : ∀ L : List Bool, L.any id = true → ∃ n R, L = List.replicate n false ++ true :: R
  | [], h => by cases h
  | true :: t, _ => ⟨0, t, rfl⟩
  | false :: t, h => by
    obtain ⟨n, R, e⟩ := any_split t (by simpa using h)
    exact ⟨n + 1, R, by rw [e]; rfl⟩
theorem any_none : ∀ L : List Bool, ¬ L.any id = true → L = List.replicate L.length false
  | [], _ => rfl
  | true :: t, h => absurd (by simp) h
  | false :: t, h => by
    have := any_none t (by simpa using h)
    rw [List.length_cons, List.replicate_succ, ← this]
/-- How many of the next bits are ones, at most so many, and what is left. -/
def onesF : Nat → List Bool → Option (Nat × List Bool)
  | 0, L => some (0, L)
  | _ + 1, [] => none
  | _ + 1, false :: L => some (0, L)
  | m + 1, true :: L => (onesF m L).map fun p => (p.1 + 1, p.2)
def onesV (s : List Bool × Nat) (m : Nat) : Nat := if s.2 = 0 then ((onesF m s.1).map (·.1)).getD 0 else 0
def onesS (s : List Bool × Nat) (m : Nat) : List Bool × Nat := if s.2 = 0 then ((onesF m s.1).map fun p => (p.2, 0)).getD (s.1, 11) else s
theorem onesF_ones : ∀ (n m : Nat) (R : List Bool), n ≤ m → onesF m (onesOf n m ++ R) = some (n, R) := by
  intro n
  induction n with
  | zero =>
    intro m R _
    cases m with
    | zero => simp [onesOf, onesF]
    | succ m => simp [onesOf, onesF]
  | succ n ih =>
    intro m R h
    obtain ⟨m, rfl⟩ : ∃ k, m = k + 1 := ⟨m - 1, by omega⟩
    have e : onesOf (n + 1) (m + 1) = true :: onesOf n m := by
      unfold onesOf
      rw [List.replicate_succ]
      by_cases h : n < m
      · rw [if_pos h, if_pos (by omega)]; rfl
      · rw [if_neg h, if_neg (by omega)]; rfl
    rw [e, List.cons_append, onesF, ih m R (by omega)]
    rfl
theorem onesV_ones {n m : Nat} (R : List Bool) (h : n ≤ m) : onesV (onesOf n m ++ R, 0) m = n ∧ onesS (onesOf n m ++ R, 0) m = (R, 0) := by
  unfold onesV onesS
  simp only [if_true, onesF_ones n m R h]
  exact ⟨rfl, rfl⟩
/-- The three ways of Ones. -/
theorem onesF_ways : ∀ (m : Nat) (L : List Bool), (∃ R, L = List.replicate m true ++ R ∧ onesF m L = some (m, R)) ∨ (∃ n R, n < m ∧ L = List.replicate n true ++ false :: R ∧ onesF m L = some (n, R)) ∨ (∃ n, n < m ∧ L = List.replicate n true ∧ onesF m L = none)
  | 0, L => .inl ⟨L, rfl, rfl⟩
  | m + 1, [] => .inr (.inr ⟨0, Nat.succ_pos _, rfl, rfl⟩)
  | m + 1, false :: L => .inr (.inl ⟨0, L, Nat.succ_pos _, rfl, rfl⟩)
  | m + 1, true :: L => by
    rcases onesF_ways m L with ⟨R, h1, h2⟩ | ⟨n, R, h0, h1, h2⟩ | ⟨n, h0, h1, h2⟩
    · exact .inl ⟨R, by rw [h1, List.replicate_succ]; rfl, by rw [onesF, h2]; rfl⟩
    · exact .inr (.inl ⟨n + 1, R, by omega, by rw [h1, List.replicate_succ]; rfl, by rw [onesF, h2]; rfl⟩)
    · exact .inr (.inr ⟨n + 1, by omega, by rw [h1, List.replicate_succ], by rw [onesF, h2]; rfl⟩)
end Go.Proofs.YtflcmmeoppdhdaaGreat
namespace Go.Proofs.YtflcmmeoppdhdaaGreat

theorem getV_bits (v n : Nat) (R : List Bool) : getV (bitsOf v n ++ R, 0) n = v % 2 ^ n ∧ getS (bitsOf v n ++ R, 0) n = (R, 0) := by
  have hl : (bitsOf v n).length = n := bitsOf_length v n
  unfold getV getS
  have h1 : n ≤ (bitsOf v n ++ R).length := by simp [hl]
  have e1 : (bitsOf v n ++ R).take n = bitsOf v n := by rw [List.take_append_of_le_length (by omega), List.take_of_length_le (by omega)]
  have e2 : (bitsOf v n ++ R).drop n = R := by rw [List.drop_append_of_le_length (by omega), List.drop_of_length_le (by omega)]; rfl
  simp only
  rw [if_pos ⟨trivial, h1⟩, if_pos trivial, if_pos h1, e1, e2, valOf_bitsOf]
  exact ⟨rfl, rfl⟩

/-- The parameter of two counts: the least one for which N times 2 to the power of it is not below A. -/
def IsK (A N k : Nat) : Prop := A ≤ N * 2 ^ k ∧ ∀ j, j < k → N * 2 ^ j < A
theorem IsK.one {A N k k' : Nat} (h : IsK A N k) (h' : IsK A N k') : k = k' := by
  rcases Nat.lt_trichotomy k k' with e | e | e
  · have := h'.2 k e; have := h.1; omega
  · exact e
  · have := h.2 k' e; have := h'.1; omega
theorem isK_some {A N m : Nat} (h : A ≤ N * 2 ^ m) : ∃ k, k ≤ m ∧ IsK A N k := by
  induction m with
  | zero => exact ⟨0, Nat.le_refl _, h, fun j hj => by omega⟩
  | succ m ih =>
    by_cases h1 : A ≤ N * 2 ^ m
    · obtain ⟨k, hk, hi⟩ := ih h1
      exact ⟨k, by omega, hi⟩
    · refine ⟨m + 1, Nat.le_refl _, h, fun j hj => ?_⟩
      have h2 : 2 ^ j ≤ 2 ^ m := Nat.pow_le_pow_right (by decide) (by omega)
      have h3 := Nat.mul_le_mul_left N h2
      omega
/-- The counts behind a word. -/
def behindA (A N v : Nat) : Nat := if N + 1 = 32 then (A + min v 4294967296) / 2 else A + min v 4294967296
def behindN (N : Nat) : Nat := if N + 1 = 32 then 16 else N + 1
/-- Counts as they may be, of words of so many bits. -/
def CountsOk (D A N : Nat) : Prop := 1 ≤ N ∧ N ≤ 31 ∧ A ≤ N * 2 ^ D ∧ A ≤ N * 4294967296 + 16
theorem counts_start {D : Nat} (h : 8 ≤ D) : CountsOk D 16 1 := ⟨Nat.le_refl _, by decide, by
  have : 2 ^ 8 ≤ 2 ^ D := Nat.pow_le_pow_right (by decide) h
  omega, by decide⟩
theorem counts_behind {D A N v : Nat} (h : CountsOk D A N) (hv : v < 2 ^ D) : CountsOk D (behindA A N v) (behindN N) := by
  obtain ⟨h1, h2, h3, h4⟩ := h
  have hm : min v 4294967296 ≤ v := Nat.min_le_left _ _
  have hm2 : min v 4294967296 ≤ 4294967296 := Nat.min_le_right _ _
  obtain ⟨u, hu⟩ : ∃ u, u = min v 4294967296 := ⟨_, rfl⟩
  obtain ⟨P, hP⟩ : ∃ P, P = 2 ^ D := ⟨_, rfl⟩
  unfold CountsOk behindA behindN
  rw [← hu] at hm hm2 ⊢
  rw [← hP] at h3 hv ⊢
  by_cases hN : N + 1 = 32
  · rw [if_pos hN, if_pos hN]
    obtain rfl : N = 31 := by omega
    exact ⟨by decide, by decide, by omega, by omega⟩
  · rw [if_neg hN, if_neg hN]
    have e : (N + 1) * P = N * P + P := Nat.succ_mul N P
    exact ⟨by omega, by omega, by omega, by omega⟩
/-- A word's bits. -/
def riceW (D k v : Nat) : List Bool := if v / 2 ^ k < 24 then onesOf (v / 2 ^ k) 24 ++ bitsOf v k else onesOf 24 24 ++ bitsOf v D
theorem onesOf_len (n m : Nat) : (onesOf n m).length ≤ n + 1 ∧ (n = m → (onesOf n m).length = n) := by
  unfold onesOf
  by_cases h1 : n < m
  · rw [if_pos h1]; simp; omega
  · rw [if_neg h1]; simp
/-- P19.4. -/
theorem riceW_len {D k v : Nat} (hk : k ≤ D) : (riceW D k v).length ≤ 24 + D := by
  unfold riceW
  split
  · rename_i h
    have := (onesOf_len (v / 2 ^ k) 24).1
    rw [List.length_append, bitsOf_length]; omega
  · have := (onesOf_len 24 24).2 rfl
    rw [List.length_append, bitsOf_length]; omega
/-- Words' bits, from two counts on. -/
inductive RiceB (D : Nat) : Nat → Nat → List Nat → List Bool → Prop
  | none (A N : Nat) : RiceB D A N [] []
  | word (A N k v : Nat) (l : List Nat) (L : List Bool) (hk : IsK A N k) (hr : RiceB D (behindA A N v) (behindN N) l L) : RiceB D A N (v :: l) (riceW D k v ++ L)
theorem RiceB.one {D A N : Nat} {l : List Nat} {L L' : List Bool} (h : RiceB D A N l L) (h' : RiceB D A N l L') : L = L' := by
  induction h generalizing L' with
  | none => cases h'; rfl
  | word A N k v l L hk hr ih =>
    cases h' with
    | word _ _ k2 _ _ L2 hk2 hr2 =>
      obtain rfl := hk.one hk2
      rw [ih hr2]
theorem riceB_some {D : Nat} : ∀ (l : List Nat) (A N : Nat), CountsOk D A N → (∀ v ∈ l, v < 2 ^ D) → ∃ L, RiceB D A N l L ∧ L.length ≤ (24 + D) * l.length := by
  intro l
  induction l with
  | nil => intro A N _ _; exact ⟨[], .none A N, by simp⟩
  | cons v l ih =>
    intro A N h hl
    obtain ⟨k, hkD, hk⟩ := isK_some h.2.2.1
    obtain ⟨L, hr, hlen⟩ := ih _ _ (counts_behind h (hl v List.mem_cons_self)) fun x hx => hl x (List.mem_cons_of_mem _ hx)
    refine ⟨_, .word A N k v l L hk hr, ?_⟩
    have := riceW_len (v := v) hkD
    rw [List.length_append, List.length_cons, Nat.mul_succ]
    omega
/-- A word that bits tell, and what is left; none, if they tell none. -/
def riceV (D k : Nat) (s : List Bool × Nat) : Option (Nat × (List Bool × Nat)) :=
  if onesV s 24 = 24 then
    if (getS (onesS s 24) D).2 = 0 then some (getV (onesS s 24) D, getS (onesS s 24) D) else none
  else if 0 < onesV s 24 ∧ (2 ^ D - 1) / onesV s 24 < 2 ^ k then none
  else if 2 ^ D - 1 < onesV s 24 * 2 ^ k + getV (onesS s 24) k then none
  else if (getS (onesS s 24) k).2 = 0 then some (onesV s 24 * 2 ^ k + getV (onesS s 24) k, getS (onesS s 24) k) else none
theorem riceV_word {D k v : Nat} (hv : v < 2 ^ D) (R : List Bool) : riceV D k (riceW D k v ++ R, 0) = some (v, (R, 0)) := by
  unfold riceV riceW
  by_cases h : v / 2 ^ k < 24
  · rw [if_pos h, List.append_assoc]
    obtain ⟨o1, o2⟩ := onesV_ones (n := v / 2 ^ k) (m := 24) (bitsOf v k ++ R) (by omega)
    obtain ⟨g1, g2⟩ := getV_bits v k R
    rw [o1, o2, g1, g2]
    have hd := Nat.div_add_mod v (2 ^ k)
    have hp : 0 < 2 ^ k := Nat.two_pow_pos k
    have e : v / 2 ^ k * 2 ^ k + v % 2 ^ k = v := by rw [Nat.mul_comm]; exact hd
    rw [if_neg (by omega), e, if_neg (fun hh => ?_), if_neg (by omega), if_pos rfl]
    obtain ⟨q, hq⟩ : ∃ q, q = v / 2 ^ k := ⟨_, rfl⟩
    rw [← hq] at hh e
    have h2 : 2 ^ k ≤ (2 ^ D - 1) / q := (Nat.le_div_iff_mul_le hh.1).2 (by rw [Nat.mul_comm]; omega)
    omega
  · rw [if_neg h, List.append_assoc]
    obtain ⟨o1, o2⟩ := onesV_ones (n := 24) (m := 24) (bitsOf v D ++ R) (Nat.le_refl _)
    obtain ⟨g1, g2⟩ := getV_bits v D R
    rw [o1, o2, g1, g2, if_pos rfl, if_pos rfl, Nat.mod_eq_of_lt hv]
/-- So many words that bits tell, one behind the other; none, if they tell none. -/
inductive RiceR (D : Nat) : Nat → Nat → Nat → (List Bool × Nat) → Option (List Nat × (List Bool × Nat)) → Prop
  | done (A N : Nat) (s : List Bool × Nat) : RiceR D 0 A N s (some ([], s))
  | bad (n A N k : Nat) (s : List Bool × Nat) (hk : IsK A N k) (hv : riceV D k s = none) : RiceR D (n + 1) A N s none
  | word (n A N k v : Nat) (s s' : List Bool × Nat) (o : Option (List Nat × (List Bool × Nat))) (hk : IsK A N k) (hv : riceV D k s = some (v, s')) (hr : RiceR D n (behindA A N v) (behindN N) s' o) : RiceR D (n + 1) A N s (o.map fun p => (v :: p.1, p.2))
/-- P19.3: what was laid is told. -/
theorem RiceB.told {D A N : Nat} {l : List Nat} {L : List Bool} (h : RiceB D A N l L) : (∀ v ∈ l, v < 2 ^ D) → ∀ R, RiceR D l.length A N (L ++ R, 0) (some (l, (R, 0))) := by
  induction h with
  | none A N => intro _ R; exact .done A N _
  | word A N k v l L hk hr ih =>
    intro hl R
    have h1 := ih (fun x hx => hl x (List.mem_cons_of_mem _ hx)) R
    have h2 := riceV_word (k := k) (hl v List.mem_cons_self) (L ++ R)
    rw [List.append_assoc]
    exact RiceR.word _ A N k v _ _ _ hk h2 h1
/-- What Ones leaves. -/
theorem onesS_less {L : List Bool} {n : Nat} {R : List Bool} (h : onesF 24 L = some (n, R)) : R.length + 1 ≤ L.length ∧ n ≤ 24 := by
  rcases onesF_ways 24 L with ⟨R', h1, h2⟩ | ⟨n', R', h0, h1, h2⟩ | ⟨n', h0, h1, h2⟩
  · rw [h2] at h
    obtain ⟨rfl, rfl⟩ := Prod.mk.injEq .. ▸ Option.some.inj h
    rw [h1]; simp
  · rw [h2] at h
    obtain ⟨rfl, rfl⟩ := Prod.mk.injEq .. ▸ Option.some.inj h
    rw [h1]; simp; omega
  · rw [h2] at h; cases h
theorem onesV_le (s : List Bool × Nat) : onesV s 24 ≤ 24 := by
  unfold onesV
  split
  · cases h : onesF 24 s.1 with
    | none => simp
    | some p => obtain ⟨n, R⟩ := p; simpa using (onesS_less h).2
  · omega
theorem getS_err {s : List Bool × Nat} {n : Nat} (h : (getS s n).2 = 0) : s.2 = 0 ∧ (getS s n).1.length ≤ s.1.length := by
  unfold getS at h ⊢
  by_cases h0 : s.2 = 0
  · rw [if_pos h0] at h ⊢
    split at h
    · rename_i h1; rw [if_pos h1]; exact ⟨h0, by simp⟩
    · simp at h
  · rw [if_neg h0] at h; exact absurd h h0
theorem onesS_err {s : List Bool × Nat} (h : (onesS s 24).2 = 0) : s.2 = 0 ∧ (onesS s 24).1.length + 1 ≤ s.1.length := by
  unfold onesS at h ⊢
  by_cases h0 : s.2 = 0
  · rw [if_pos h0] at h ⊢
    cases h1 : onesF 24 s.1 with
    | none => rw [h1] at h; simp at h
    | some p => obtain ⟨n, R⟩ := p; exact ⟨h0, by simpa using (onesS_less h1).1⟩
  · rw [if_neg h0] at h; exact absurd h h0
/-- A word that is told: what it is, and that bits were taken. -/
theorem riceV_some {D k v : Nat} {s s' : List Bool × Nat} (h : riceV D k s = some (v, s')) : v < 2 ^ D ∧ s.2 = 0 ∧ s'.2 = 0 ∧ s'.1.length + 1 ≤ s.1.length := by
  have hp : 0 < 2 ^ D := Nat.two_pow_pos D
  unfold riceV at h
  split at h
  · split at h
    · rename_i h1 h2
      obtain ⟨rfl, rfl⟩ := Prod.mk.injEq .. ▸ Option.some.inj h
      obtain ⟨g1, g2⟩ := getS_err h2
      obtain ⟨o1, o2⟩ := onesS_err g1
      exact ⟨getV_lt _ _, o1, h2, by omega⟩
    · cases h
  · split at h
    · cases h
    · split at h
      · cases h
      · split at h
        · rename_i h1 h2 h3 h4
          obtain ⟨rfl, rfl⟩ := Prod.mk.injEq .. ▸ Option.some.inj h
          obtain ⟨g1, g2⟩ := getS_err h4
          obtain ⟨o1, o2⟩ := onesS_err g1
          exact ⟨by omega, o1, h4, by omega⟩
        · cases h
theorem RiceR.len {D n A N : Nat} {s : List Bool × Nat} {o : Option (List Nat × (List Bool × Nat))} (h : RiceR D n A N s o) : ∀ X s', o = some (X, s') → X.length = n ∧ X.length + s'.1.length ≤ s.1.length ∧ (∀ x ∈ X, x < 2 ^ D) ∧ (s.2 = 0 → s'.2 = 0) := by
  induction h with
  | done A N s => intro X s' e; obtain ⟨rfl, rfl⟩ := Prod.mk.injEq .. ▸ Option.some.inj e; exact ⟨rfl, by simp, by simp, id⟩
  | bad => intro X s' e; cases e
  | word n A N k v s s2 o hk hv hr ih =>
    intro X s' e
    cases o with
    | none => cases e
    | some p =>
      obtain ⟨Y, t⟩ := p
      simp only [Option.map_some, Option.some.injEq, Prod.mk.injEq] at e
      obtain ⟨rfl, rfl⟩ := e
      obtain ⟨i1, i2, i3, i4⟩ := ih Y t rfl
      obtain ⟨v1, v2, v3, v4⟩ := riceV_some hv
      exact ⟨by simp [i1], by simp; omega, fun x hx => by
        rcases List.mem_cons.1 hx with rfl | hx
        · exact v1
        · exact i3 x hx, fun _ => i4 v3⟩
end Go.Proofs.YtflcmmeoppdhdaaGreat
