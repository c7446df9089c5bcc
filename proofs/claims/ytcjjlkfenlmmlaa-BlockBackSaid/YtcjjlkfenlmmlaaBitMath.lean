/- Plain mathematics of layer 1: bits, and the bytes that have them. · Plain mathematics of layer 2: a number as few bytes, seven bits each. -/
import Derived.Lib.BitFns
namespace Go.Proofs.Ytcjjlkfenlmmlaa

/-- The bit at place i of bytes, the lowest of each byte first; none behind the end. -/
def bitAt (bs : List UInt8) (i : Nat) : Bool := (bs.getD (i / 8) 0).toNat.testBit (i % 8)
/-- The bytes that have just these bits, and noughts that fill up the last. -/
def Packs (bs : List UInt8) (l : List Bool) : Prop := bs.length = (l.length + 7) / 8 ∧ ∀ i, bitAt bs i = l.getD i false
/-- A number's n lowest bits. -/
def bitsOf (v n : Nat) : List Bool := (List.range n).map v.testBit
/-- n ones, and a nought, if n is below most. -/
def onesOf (n most : Nat) : List Bool := List.replicate n true ++ if n < most then [false] else []
/-- The number that bits are. -/
def valOf : List Bool → Nat
  | [] => 0
  | b :: r => b.toNat + 2 * valOf r
/-- The bits of bytes. -/
def allBits (bs : List UInt8) : List Bool := (List.range (8 * bs.length)).map (bitAt bs)

theorem allBits_length (bs : List UInt8) : (allBits bs).length = 8 * bs.length := by simp [allBits]
theorem allBits_get (bs : List UInt8) (i : Nat) (h : i < 8 * bs.length) : (allBits bs)[i]? = some (bitAt bs i) := by simp [allBits, h]
theorem bitsOf_length (v n : Nat) : (bitsOf v n).length = n := by simp [bitsOf]
theorem bitsOf_succ (v n : Nat) : bitsOf v (n + 1) = bitsOf v n ++ [v.testBit n] := by simp [bitsOf, List.range_succ]

theorem u8_ext {a b : UInt8} (h : ∀ j, j < 8 → a.toNat.testBit j = b.toNat.testBit j) : a = b := by
  apply UInt8.toNat_inj.1
  apply Nat.eq_of_testBit_eq
  intro j
  rcases Nat.lt_or_ge j 8 with g | g
  · exact h j g
  · have p : (2 : Nat) ^ 8 ≤ 2 ^ j := Nat.pow_le_pow_right (by decide) g
    have ha := a.toNat_lt
    have hb := b.toNat_lt
    rw [Nat.testBit_lt_two_pow (by omega), Nat.testBit_lt_two_pow (by omega)]

theorem Packs.unique {a b : List UInt8} {l : List Bool} (ha : Packs a l) (hb : Packs b l) : a = b := by
  apply List.ext_getElem (ha.1.trans hb.1.symm)
  intro k h1 h2
  apply u8_ext
  intro j hj
  have ea := ha.2 (8 * k + j)
  have eb := hb.2 (8 * k + j)
  rw [← eb] at ea
  simp only [bitAt] at ea
  have q : (8 * k + j) / 8 = k := by omega
  have r : (8 * k + j) % 8 = j := by omega
  rw [q, r] at ea
  simpa [List.getD_eq_getElem?_getD, h1, h2] using ea

theorem Packs.nil : Packs [] [] := ⟨rfl, fun i => by simp [bitAt]⟩

/-- One bit more, laid into the byte that has room for it. -/
theorem Packs.snoc {bs : List UInt8} {l : List Bool} (h : Packs bs l) (b : Bool) (bs' : List UInt8) (hbs : bs' = if l.length % 8 = 0 then bs ++ [0] else bs) (c : UInt8)
    (hc : c.toNat = (bs'.getD (l.length / 8) 0).toNat ||| b.toNat <<< (l.length % 8)) : Packs (bs'.set (l.length / 8) c) (l ++ [b]) := by
  have hlen : bs'.length = ((l ++ [b]).length + 7) / 8 := by
    rw [hbs]
    have := h.1
    split <;> simp <;> omega
  have hin : l.length / 8 < bs'.length := by rw [hlen]; simp; omega
  have hbit : ∀ i, bitAt bs' i = l.getD i false := by
    intro i
    rw [← h.2 i, hbs]
    split
    · simp only [bitAt, List.getD_eq_getElem?_getD, List.getElem?_append]
      split
      · rfl
      · rename_i g
        rw [List.getElem?_eq_none (l := bs) (by omega)]
        cases hz : i / 8 - bs.length <;> simp
    · rfl
  refine ⟨by simpa using hlen, fun i => ?_⟩
  by_cases hi : i / 8 = l.length / 8
  · have hb2 := hbit i
    simp only [bitAt, hi] at hb2 ⊢
    rw [List.getD_eq_getElem?_getD, List.getElem?_set_self hin, Option.getD_some, hc, Nat.testBit_or, hb2, Nat.testBit_shiftLeft]
    simp only [List.getD_eq_getElem?_getD, List.getElem?_append]
    by_cases hil : i < l.length
    · rw [if_pos hil]
      have : ¬ (i % 8 ≥ l.length % 8) := by omega
      simp [this]
    · rw [if_neg hil, List.getElem?_eq_none (l := l) (by omega)]
      by_cases hie : i = l.length
      · subst hie
        cases b <;> simp
      · have g1 : i % 8 ≥ l.length % 8 := by omega
        have g2 : i % 8 - l.length % 8 ≠ 0 := by omega
        rw [List.getElem?_eq_none (by simp; omega)]
        obtain ⟨m, hm⟩ : ∃ m, i % 8 - l.length % 8 = m + 1 := ⟨i % 8 - l.length % 8 - 1, by omega⟩
        cases b <;> simp [g1, hm, Nat.testBit_succ]
  · have : bitAt (bs'.set (l.length / 8) c) i = bitAt bs' i := by
      simp only [bitAt, List.getD_eq_getElem?_getD, List.getElem?_set_ne (Ne.symm hi)]
    rw [this, hbit]
    simp only [List.getD_eq_getElem?_getD, List.getElem?_append]
    split
    · rfl
    · rename_i g
      have hne : i - l.length ≠ 0 := by omega
      rw [List.getElem?_eq_none (l := l) (by omega), List.getElem?_eq_none (by simp; omega)]

theorem Packs.all {bs : List UInt8} {l : List Bool} (h : Packs bs l) : allBits bs = l ++ List.replicate (8 * bs.length - l.length) false := by
  have := h.1
  apply List.ext_getElem?
  intro i
  rcases Nat.lt_or_ge i (8 * bs.length) with g | g
  · rw [allBits_get bs i g, h.2 i, List.getElem?_append]
    split
    · rename_i g2; simp [List.getD_eq_getElem?_getD, g2]
    · rename_i g2
      rw [List.getElem?_replicate, if_pos (by omega), List.getD_eq_getElem?_getD, List.getElem?_eq_none (by omega)]
      rfl
  · rw [List.getElem?_eq_none (by rw [allBits_length]; omega), List.getElem?_eq_none (by simp; omega)]

theorem allBits_snoc (bs : List UInt8) (b : UInt8) : allBits (bs ++ [b]) = allBits bs ++ bitsOf b.toNat 8 := by
  apply List.ext_getElem?
  intro i
  rw [List.getElem?_append, allBits_length]
  split
  · rename_i h
    rw [allBits_get bs i h, allBits_get _ i (by simp; omega)]
    simp only [bitAt, List.getD_eq_getElem?_getD]
    rw [List.getElem?_append_left (by omega)]
  · rename_i h
    rcases Nat.lt_or_ge i (8 * bs.length + 8) with g | g
    · rw [allBits_get _ i (by simp; omega)]
      simp only [bitAt, bitsOf, List.getD_eq_getElem?_getD]
      rw [List.getElem?_append_right (by omega), show i / 8 - bs.length = 0 by omega, show i % 8 = i - 8 * bs.length by omega]
      simp [show i - 8 * bs.length < 8 by omega]
    · rw [List.getElem?_eq_none (by rw [allBits_length]; simp; omega), List.getElem?_eq_none (by rw [bitsOf_length]; omega)]
theorem valOf_lt : ∀ l : List Bool, valOf l < 2 ^ l.length
  | [] => by simp [valOf]
  | b :: r => by
    have := valOf_lt r
    have hb : b.toNat ≤ 1 := by cases b <;> simp
    simp only [valOf, List.length_cons, Nat.pow_succ]
    omega
theorem valOf_snoc : ∀ (l : List Bool) (b : Bool), valOf (l ++ [b]) = valOf l + b.toNat * 2 ^ l.length
  | [], b => by simp [valOf]
  | a :: r, b => by
    simp only [List.cons_append, valOf, valOf_snoc r b, List.length_cons, Nat.pow_succ]
    rw [← Nat.mul_assoc]
    omega
theorem valOf_bitsOf (v n : Nat) : valOf (bitsOf v n) = v % 2 ^ n := by
  induction n with
  | zero => simp [bitsOf, valOf, Nat.mod_one]
  | succ n ih =>
    rw [bitsOf_succ, valOf_snoc, ih, bitsOf_length, Nat.mod_pow_succ, Nat.testBit_eq_decide_div_mod_eq]
    rcases Nat.mod_two_eq_zero_or_one (v / 2 ^ n) with h | h <;> simp [h, Nat.mul_comm]
theorem valOf_noughts (n : Nat) : valOf (List.replicate n false) = 0 := by
  induction n with
  | zero => rfl
  | succ n ih => simp [List.replicate_succ, valOf, ih]
end Go.Proofs.Ytcjjlkfenlmmlaa
namespace Go.Proofs.Ytcjjlkfenlmmlaa

/-- A number's bytes. -/
def lput (n : Nat) : List UInt8 := if n < 128 then [UInt8.ofNat n] else UInt8.ofNat (128 + n % 128) :: lput (n / 128)
termination_by n
decreasing_by omega

theorem lput_small {n : Nat} (h : n < 128) : lput n = [UInt8.ofNat n] := by rw [lput, if_pos h]
theorem lput_big {n : Nat} (h : ¬ n < 128) : lput n = UInt8.ofNat (128 + n % 128) :: lput (n / 128) := by rw [lput, if_neg h]

theorem lput_len (n : Nat) : n < 18446744073709551616 → (lput n).length = max 1 ((Lib.bitLen n + 6) / 7) := by
  induction n using Nat.strongRecOn with
  | _ n ih =>
    intro hn
    by_cases h : n < 128
    · rw [lput_small h]
      have hb : Lib.bitLen n ≤ 7 := by
        have key : ∀ j : Fin 128, Lib.bitLen j.val ≤ 7 := by decide +kernel
        exact key ⟨n, h⟩
      simp; omega
    · rw [lput_big h, List.length_cons, ih (n / 128) (by omega) (by omega)]
      have s := Lib.bitLen_shift 7 n (by omega) hn
      have e : n / 2 ^ 7 = n / 128 := rfl
      rw [e] at s
      have hp : 1 ≤ Lib.bitLen (n / 128) := by
        have hq : n / 128 ≠ 0 := by omega
        have : Lib.bitLen (n / 128) = 1 + Lib.bitLenAux 63 (n / 128 / 2) := by unfold Lib.bitLen; rw [Lib.bitLenAux, if_neg hq]
        omega
      omega

theorem lput_pos (n : Nat) : 0 < (lput n).length := by
  rw [lput]; split <;> simp
theorem lput_le (n : Nat) (h : n < 18446744073709551616) : (lput n).length ≤ 10 := by
  rw [lput_len n h]
  have : Lib.bitLen n ≤ 64 := Lib.bitLenAux_le 64 n 64 (by omega)
  omega

/-- The number with which bytes begin (behind k of its bytes, whose bits come to acc), how many bytes it has, the error. -/
def lgetF : Nat → Nat → List UInt8 → Nat × Nat × Nat
  | _, _, [] => (0, 0, 11)
  | k, acc, c :: cs =>
    if k = 9 ∧ 1 < c.toNat then (0, 0, 21)
    else if 128 ≤ c.toNat then lgetF (k + 1) (acc + (c.toNat - 128) * 128 ^ k) cs
    else if c.toNat = 0 ∧ 0 < k then (0, 0, 21)
    else (acc + c.toNat * 128 ^ k, k + 1, 0)
def lget (l : List UInt8) : Nat × Nat × Nat := lgetF 0 0 l

theorem toNat_ofNat8 {n : Nat} (h : n < 256) : (UInt8.ofNat n).toNat = n := by simp [UInt8.toNat_ofNat']; omega

theorem pow128_9 : (128 : Nat) ^ 9 = 9223372036854775808 := by decide
theorem pow128_mono {k : Nat} (h : k ≤ 9) : (128 : Nat) ^ k ≤ 9223372036854775808 := by
  rw [← pow128_9]; exact Nat.pow_le_pow_right (by decide) h
theorem pow128_pos (k : Nat) : 0 < (128 : Nat) ^ k := Nat.pow_pos (by decide)
theorem pow128_split {k : Nat} (h : k ≤ 9) : ∃ q, 0 < q ∧ 18446744073709551616 = 2 * q * 128 ^ k ∧ q = 128 ^ (9 - k) := by
  refine ⟨128 ^ (9 - k), pow128_pos _, ?_, rfl⟩
  have : (128 : Nat) ^ (9 - k) * 128 ^ k = 128 ^ 9 := by rw [← Nat.pow_add]; congr 1; omega
  rw [Nat.mul_assoc, this, pow128_9]
/-- the tenth byte has room for one bit -/
theorem ninth {n : Nat} (h : n * 128 ^ 9 < 18446744073709551616) : n ≤ 1 := by rw [pow128_9] at h; omega

theorem lgetF_put : ∀ (n k acc : Nat) (more : List UInt8), k ≤ 9 → n * 128 ^ k < 18446744073709551616 → (0 < k → n ≠ 0) →
    lgetF k acc (lput n ++ more) = (acc + n * 128 ^ k, k + (lput n).length, 0) := by
  intro n
  induction n using Nat.strongRecOn with
  | _ n ih =>
    intro k acc more hk hn h0
    by_cases h : n < 128
    · rw [lput_small h]
      have hc : (UInt8.ofNat n).toNat = n := toNat_ofNat8 (by omega)
      simp only [List.cons_append, List.nil_append, lgetF, hc]
      have g1 : ¬ (k = 9 ∧ 1 < n) := by rintro ⟨rfl, g⟩; have := ninth hn; omega
      have g3 : ¬ (n = 0 ∧ 0 < k) := by rintro ⟨g, g'⟩; exact h0 g' g
      rw [if_neg g1, if_neg (by omega), if_neg g3]; rfl
    · rw [lput_big h]
      have hc : (UInt8.ofNat (128 + n % 128)).toNat = 128 + n % 128 := toNat_ofNat8 (by omega)
      simp only [List.cons_append, lgetF, hc]
      have hk8 : k ≤ 8 := by
        rcases Nat.lt_or_ge k 9 with g | g
        · omega
        · have : k = 9 := by omega
          subst this; have := ninth hn; omega
      have hsplit : n / 128 * 128 ^ (k + 1) + (n % 128) * 128 ^ k = n * 128 ^ k := by
        rw [Nat.pow_succ, Nat.mul_comm (128 ^ k) 128, ← Nat.mul_assoc, ← Nat.add_mul]; congr 1; omega
      rw [if_neg (by omega), if_pos (by omega), ih (n / 128) (by omega) (k + 1) _ more (by omega) (by omega) (by omega)]
      simp only [Nat.add_sub_cancel_left, List.length_cons, Prod.mk.injEq, and_true]
      omega

theorem lgetF_cut : ∀ (n k acc at_ : Nat), k ≤ 9 → n * 128 ^ k < 18446744073709551616 → at_ < (lput n).length → lgetF k acc ((lput n).take at_) = (0, 0, 11) := by
  intro n
  induction n using Nat.strongRecOn with
  | _ n ih =>
    intro k acc at_ hk hn hat
    cases at_ with
    | zero => simp [lgetF]
    | succ at_ =>
      by_cases h : n < 128
      · rw [lput_small h] at hat; simp at hat
      · rw [lput_big h] at hat ⊢
        have hc : (UInt8.ofNat (128 + n % 128)).toNat = 128 + n % 128 := toNat_ofNat8 (by omega)
        simp only [List.take_succ_cons, lgetF, hc]
        have hk8 : k ≤ 8 := by
          rcases Nat.lt_or_ge k 9 with g | g
          · omega
          · have : k = 9 := by omega
            subst this; have := ninth hn; omega
        have hsplit : n / 128 * 128 ^ (k + 1) + (n % 128) * 128 ^ k = n * 128 ^ k := by
          rw [Nat.pow_succ, Nat.mul_comm (128 ^ k) 128, ← Nat.mul_assoc, ← Nat.add_mul]; congr 1; omega
        rw [if_neg (by omega), if_pos (by omega), ih (n / 128) (by omega) (k + 1) _ at_ (by omega) (by omega) (by simpa using hat)]

/-- What is told of any bytes. -/
theorem lgetF_told : ∀ (l : List UInt8) (k acc : Nat), k ≤ 9 →
    (∃ n, lgetF k acc l = (acc + n * 128 ^ k, k + (lput n).length, 0) ∧ n * 128 ^ k < 18446744073709551616 ∧ (0 < k → n ≠ 0) ∧ (lput n).length ≤ l.length ∧ l.take (lput n).length = lput n) ∨
    lgetF k acc l = (0, 0, 11) ∨ lgetF k acc l = (0, 0, 21) := by
  intro l
  induction l with
  | nil => intro k acc _; exact .inr (.inl rfl)
  | cons c cs ih =>
    intro k acc hk
    have hc := c.toNat_lt
    by_cases h1 : k = 9 ∧ 1 < c.toNat
    · right; right; simp only [lgetF]; rw [if_pos h1]
    by_cases h2 : 128 ≤ c.toNat
    · have hk8 : k ≤ 8 := by omega
      have e : lgetF k acc (c :: cs) = lgetF (k + 1) (acc + (c.toNat - 128) * 128 ^ k) cs := by simp only [lgetF]; rw [if_neg h1, if_pos h2]
      rw [e]
      rcases ih (k + 1) (acc + (c.toNat - 128) * 128 ^ k) (by omega) with ⟨n, hn, hb, h0, hl, ht⟩ | hh | hh
      · left
        have hn0 := h0 (by omega)
        have hbig : ¬ (c.toNat - 128) + 128 * n < 128 := by omega
        have hput : lput ((c.toNat - 128) + 128 * n) = c :: lput n := by
          rw [lput_big hbig]
          have e1 : ((c.toNat - 128) + 128 * n) % 128 = c.toNat - 128 := by omega
          have e2 : ((c.toNat - 128) + 128 * n) / 128 = n := by omega
          rw [e1, e2, show 128 + (c.toNat - 128) = c.toNat by omega]
          congr 1
          exact UInt8.toNat_inj.1 (toNat_ofNat8 hc)
        refine ⟨(c.toNat - 128) + 128 * n, ?_, ?_, by omega, ?_, ?_⟩
        · rw [hn, hput, List.length_cons]
          have : (c.toNat - 128 + 128 * n) * 128 ^ k = (c.toNat - 128) * 128 ^ k + n * 128 ^ (k + 1) := by
            rw [Nat.add_mul, Nat.pow_succ]; congr 1; rw [Nat.mul_comm 128 n, Nat.mul_assoc, Nat.mul_comm 128]
          simp only [Prod.mk.injEq, and_true]
          omega
        · obtain ⟨q, hq, hqe, _⟩ := pow128_split (k := k + 1) (by omega)
          have hp := pow128_pos (k + 1)
          have h3 : n < 2 * q := by
            rcases Nat.lt_or_ge n (2 * q) with g | g
            · exact g
            · have := Nat.mul_le_mul_right (128 ^ (k + 1)) g
              omega
          have h4 : (n + 1) * 128 ^ (k + 1) ≤ 2 * q * 128 ^ (k + 1) := Nat.mul_le_mul_right _ h3
          have h5 : (c.toNat - 128 + 128 * n) * 128 ^ k < (n + 1) * 128 ^ (k + 1) := by
            have e3 : (n + 1) * 128 ^ (k + 1) = ((n + 1) * 128) * 128 ^ k := by rw [Nat.pow_succ, Nat.mul_assoc, Nat.mul_comm 128]
            rw [e3]
            exact Nat.mul_lt_mul_of_pos_right (by omega) (pow128_pos k)
          omega
        · rw [hput]; simpa using hl
        · rw [hput]; simp [ht]
      · exact .inr (.inl hh)
      · exact .inr (.inr hh)
    by_cases h3 : c.toNat = 0 ∧ 0 < k
    · right; right; simp only [lgetF]; rw [if_neg h1, if_neg h2, if_pos h3]
    · left
      have hput : lput c.toNat = [c] := by
        rw [lput_small (by omega)]
        congr 1
        exact UInt8.toNat_inj.1 (toNat_ofNat8 hc)
      refine ⟨c.toNat, ?_, ?_, fun g g' => h3 ⟨g', g⟩, ?_, ?_⟩
      · rw [hput]; simp only [lgetF]; rw [if_neg h1, if_neg h2, if_neg h3]; rfl
      · rcases Nat.lt_or_ge k 9 with g | g
        · have h6 : 128 ^ (k + 1) ≤ 9223372036854775808 := pow128_mono (by omega)
          have h7 : c.toNat * 128 ^ k < 128 ^ (k + 1) := by
            rw [Nat.pow_succ, Nat.mul_comm (128 ^ k)]
            exact Nat.mul_lt_mul_of_pos_right (by omega) (pow128_pos k)
          omega
        · have : k = 9 := by omega
          subst this
          have : c.toNat ≤ 1 := by omega
          have := Nat.mul_le_mul_right (128 ^ 9) this
          rw [pow128_9] at this ⊢
          omega
      · rw [hput]; simp
      · rw [hput]; simp

theorem lget_put (n : Nat) (more : List UInt8) (h : n < 18446744073709551616) : lget (lput n ++ more) = (n, (lput n).length, 0) := by
  have := lgetF_put n 0 0 more (by omega) (by simpa using h) (by omega)
  simpa [lget] using this
theorem lget_cut (n at_ : Nat) (h : n < 18446744073709551616) (hat : at_ < (lput n).length) : lget ((lput n).take at_) = (0, 0, 11) :=
  lgetF_cut n 0 0 at_ (by omega) (by simpa using h) hat
theorem lget_told (l : List UInt8) : (∃ n, lget l = (n, (lput n).length, 0) ∧ n < 18446744073709551616 ∧ (lput n).length ≤ l.length ∧ l.take (lput n).length = lput n) ∨ lget l = (0, 0, 11) ∨ lget l = (0, 0, 21) := by
  rcases lgetF_told l 0 0 (by omega) with ⟨n, hn, hb, _, hl, ht⟩ | h | h
  · exact .inl ⟨n, by simpa [lget] using hn, by simpa using hb, hl, ht⟩
  · exact .inr (.inl h)
  · exact .inr (.inr h)

/-- A number without a sign, and back. -/
def foldI (i : Int) : Int := if 0 ≤ i then 2 * i else -2 * i - 1
def unfoldI (u : Int) : Int := if u % 2 = 0 then u / 2 else -(u / 2) - 1
theorem unfold_fold (i : Int) : unfoldI (foldI i) = i := by
  unfold foldI unfoldI
  split <;> split <;> omega
theorem foldI_range (i : Int) (h0 : -9223372036854775808 ≤ i) (h1 : i ≤ 9223372036854775807) : 0 ≤ foldI i ∧ foldI i ≤ 18446744073709551615 := by
  unfold foldI
  split <;> omega
theorem unfoldI_range (u : Int) (h0 : 0 ≤ u) (h1 : u ≤ 18446744073709551615) : -9223372036854775808 ≤ unfoldI u ∧ unfoldI u ≤ 9223372036854775807 := by
  unfold unfoldI
  split <;> omega
/-- What a number of n bits is, and what is left: of a reader's state. -/
def getV (s : List Bool × Nat) (n : Nat) : Nat := if s.2 = 0 ∧ n ≤ s.1.length then valOf (s.1.take n) else 0
def getS (s : List Bool × Nat) (n : Nat) : List Bool × Nat := if s.2 = 0 then (if n ≤ s.1.length then (s.1.drop n, 0) else (s.1, 11)) else s
theorem getV_lt (s : List Bool × Nat) (n : Nat) : getV s n < 2 ^ n := by
  unfold getV
  split
  · have := valOf_lt (s.1.take n)
    rw [List.length_take, Nat.min_eq_left (by omega)] at this
    exact this
  · exact Nat.two_pow_pos n
end Go.Proofs.Ytcjjlkfenlmmlaa
