/- Plain mathematics of layer 1: bits, and the bytes that have them. -/
namespace Go.Proofs.YtclhgjjehnmncaaDoor

/-- The bit at place i of bytes, the lowest of each byte first; none behind the end. -/
def bitAt (bs : List UInt8) (i : Nat) : Bool := (bs.getD (i / 8) 0).toNat.testBit (i % 8)
/-- The bytes that have just these bits, and noughts that fill up the last. -/
def Packs (bs : List UInt8) (l : List Bool) : Prop := bs.length = (l.length + 7) / 8 ∧ ∀ i, bitAt bs i = l.getD i false
/-- A number's n lowest bits. -/
def bitsOf (v n : Nat) : List Bool := (List.range n).map v.testBit
/-- n ones, and a nought, if n is below most. -/
def onesOf (n most : Nat) : List Bool := List.replicate n true ++ if n < most then [false] else []
/-- The number that bits are. -/
def valOf : List Bool → Nat
  | [] => 0
  | b :: r => b.toNat + 2 * valOf r
/-- The bits of bytes. -/
def allBits (bs : List UInt8) : List Bool := (List.range (8 * bs.length)).map (bitAt bs)

theorem allBits_length (bs : List UInt8) : (allBits bs).length = 8 * bs.length := by simp [allBits]
theorem allBits_get (bs : List UInt8) (i : Nat) (h : i < 8 * bs.length) : (allBits bs)[i]? = some (bitAt bs i) := by simp [allBits, h]
theorem bitsOf_length (v n : Nat) : (bitsOf v n).length = n := by simp [bitsOf]
theorem bitsOf_succ (v n : Nat) : bitsOf v (n + 1) = bitsOf v n ++ [v.testBit n] := by simp [bitsOf, List.range_succ]

theorem u8_ext {a b : UInt8} (h : ∀ j, j < 8 → a.toNat.testBit j = b.toNat.testBit j) : a = b := by
  apply UInt8.toNat_inj.1
  apply Nat.eq_of_testBit_eq
  intro j
  rcases Nat.lt_or_ge j 8 with g | g
  · exact h j g
  · have p : (2 : Nat) ^ 8 ≤ 2 ^ j := Nat.pow_le_pow_right (by decide) g
    have ha := a.toNat_lt
    have hb := b.toNat_lt
    rw [Nat.testBit_lt_two_pow (by omega), Nat.testBit_lt_two_pow (by omega)]

theorem Packs.unique {a b : List UInt8} {l : List Bool} (ha : Packs a l) (hb : Packs b l) : a = b := by
  apply List.ext_getElem (ha.1.trans hb.1.symm)
  intro k h1 h2
  apply u8_ext
  intro j hj
  have ea := ha.2 (8 * k + j)
  have eb := hb.2 (8 * k + j)
  rw [← eb] at ea
  simp only [bitAt] at ea
  have q : (8 * k + j) / 8 = k := by omega
  have r : (8 * k + j) % 8 = j := by omega
  rw [q, r] at ea
  simpa [List.getD_eq_getElem?_getD, h1, h2] using ea

theorem Packs.nil : Packs [] [] := ⟨rfl, fun i => by simp [bitAt]⟩

/-- One bit more, laid into the byte that has room for it. -/
theorem Packs.snoc {bs : List UInt8} {l : List Bool} (h : Packs bs l) (b : Bool) (bs' : List UInt8) (hbs : bs' = if l.length % 8 = 0 then bs ++ [0] else bs) (c : UInt8)
    (hc : c.toNat = (bs'.getD (l.length / 8) 0).toNat ||| b.toNat <<< (l.length % 8)) : Packs (bs'.set (l.length / 8) c) (l ++ [b]) := by
  have hlen : bs'.length = ((l ++ [b]).length + 7) / 8 := by
    rw [hbs]
    have := h.1
    split <;> simp <;> omega
  have hin : l.length / 8 < bs'.length := by rw [hlen]; simp; omega
  have hbit : ∀ i, bitAt bs' i = l.getD i false := by
    intro i
    rw [← h.2 i, hbs]
    split
    · simp only [bitAt, List.getD_eq_getElem?_getD, List.getElem?_append]
      split
      · rfl
      · rename_i g
        rw [List.getElem?_eq_none (l := bs) (by omega)]
        cases hz : i / 8 - bs.length <;> simp
    · rfl
  refine ⟨by simpa using hlen, fun i => ?_⟩
  by_cases hi : i / 8 = l.length / 8
  · have hb2 := hbit i
    simp only [bitAt, hi] at hb2 ⊢
    rw [List.getD_eq_getElem?_getD, List.getElem?_set_self hin, Option.getD_some, hc, Nat.testBit_or, hb2, Nat.testBit_shiftLeft]
    simp only [List.getD_eq_getElem?_getD, List.getElem?_append]
    by_cases hil : i < l.length
    · rw [if_pos hil]
      have : ¬ (i % 8 ≥ l.length % 8) := by omega
      simp [this]
    · rw [if_neg hil, List.getElem?_eq_none (l := l) (by omega)]
      by_cases hie : i = l.length
      · subst hie
        cases b <;> simp
      · have g1 : i % 8 ≥ l.length % 8 := by omega
        have g2 : i % 8 - l.length % 8 ≠ 0 := by omega
        rw [List.getElem?_eq_none (by simp; omega)]
        obtain ⟨m, hm⟩ : ∃ m, i % 8 - l.length % 8 = m + 1 := ⟨i % 8 - l.length % 8 - 1, by omega⟩
        cases b <;> simp [g1, hm, Nat.testBit_succ]
  · have : bitAt (bs'.set (l.length / 8) c) i = bitAt bs' i := by
      simp only [bitAt, List.getD_eq_getElem?_getD, List.getElem?_set_ne (Ne.symm hi)]
    rw [this, hbit]
    simp only [List.getD_eq_getElem?_getD, List.getElem?_append]
    split
    · rfl
    · rename_i g
      have hne : i - l.length ≠ 0 := by omega
      rw [List.getElem?_eq_none (l := l) (by omega), List.getElem?_eq_none (by simp; omega)]

theorem Packs.all {bs : List UInt8} {l : List Bool} (h : Packs bs l) : allBits bs = l ++ List.replicate (8 * bs.length - l.length) false := by
  have := h.1
  apply List.ext_getElem?
  intro i
  rcases Nat.lt_or_ge i (8 * bs.length) with g | g
  · rw [allBits_get bs i g, h.2 i, List.getElem?_append]
    split
    · rename_i g2; simp [List.getD_eq_getElem?_getD, g2]
    · rename_i g2
      rw [List.getElem?_replicate, if_pos (by omega), List.getD_eq_getElem?_getD, List.getElem?_eq_none (by omega)]
      rfl
  · rw [List.getElem?_eq_none (by rw [allBits_length]; omega), List.getElem?_eq_none (by simp; omega)]

theorem valOf_lt : ∀ l : List Bool, valOf l < 2 ^ l.length
  | [] => by simp [valOf]
  | b :: r => by
    have := valOf_lt r
    have hb : b.toNat ≤ 1 := by cases b <;> simp
    simp only [valOf, List.length_cons, Nat.pow_succ]
    omega
theorem valOf_snoc : ∀ (l : List Bool) (b : Bool), valOf (l ++ [b]) = valOf l + b.toNat * 2 ^ l.length
  | [], b => by simp [valOf]
  | a :: r, b => by
    simp only [List.cons_append, valOf, valOf_snoc r b, List.length_cons, Nat.pow_succ]
    rw [← Nat.mul_assoc]
    omega
theorem valOf_bitsOf (v n : Nat) : valOf (bitsOf v n) = v % 2 ^ n := by
  induction n with
  | zero => simp [bitsOf, valOf, Nat.mod_one]
  | succ n ih =>
    rw [bitsOf_succ, valOf_snoc, ih, bitsOf_length, Nat.mod_pow_succ, Nat.testBit_eq_decide_div_mod_eq]
    rcases Nat.mod_two_eq_zero_or_one (v / 2 ^ n) with h | h <;> simp [h, Nat.mul_comm]
theorem valOf_noughts (n : Nat) : valOf (List.replicate n false) = 0 := by
  induction n with
  | zero => rfl
  | succ n ih => simp [List.replicate_succ, valOf, ih]
end Go.Proofs.YtclhgjjehnmncaaDoor
