/-
  Plain mathematics of layer 1: bits, and the bytes that have them. · Plain mathematics of layer 2: a number as few bytes, seven bits each. · Plain mathematics of layer 19: words by a parameter that follows them, as bits, and back. Written ahead of the code.
-/
import Derived.Lib.BitFns
namespace Go.Proofs.YtflcmmeoppdhdaaGreat

/-- The bit at place i of bytes, the lowest of each byte first; none behind the end. -/
def bitAt (bs : List UInt8) (i : Nat) : Bool := (bs.getD (i / 8) 0).toNat.testBit (i % 8)
/-- The bytes that have just these bits, and noughts that fill up the last. -/
def Packs (bs : List UInt8) (l : List Bool) : Prop := bs.length = (l.length + 7) / 8 ∧ ∀ i, bitAt bs i = l.getD i false
/-- A number's n lowest bits. -/
def bitsOf (v n : Nat) : List Bool := (List.range n).map v.testBit
/-- n ones, and a nought, if n is below most. -/
def onesOf (n most : Nat) : List Bool := List.replicate n true ++ if n < most then [false] else []
/-- The bits of bytes. -/
def allBits (bs : List UInt8) : List Bool := (List.range (8 * bs.length)).map (bitAt bs)

theorem allBits_length (bs : List UInt8) : (allBits bs).length = 8 * bs.length := by simp [allBits]
theorem allBits_get (bs : List UInt8) (i : Nat) (h : i < 8 * bs.length) : (allBits bs)[i]? = some (bitAt bs i) := by simp [allBits, h]
theorem bitsOf_length (v n : Nat) : (bitsOf v n).length = n := by simp [bitsOf]
theorem bitsOf_succ (v n : Nat) : bitsOf v (n + 1) = bitsOf v n ++ [v.testBit n] := by simp [bitsOf, List.range_succ]

theorem u8_ext {a b : UInt8} (h : ∀ j, j < 8 → a.toNat.testBit j = b.toNat.testBit j) : a = b := by
  apply UInt8.toNat_inj.1
  apply Nat.eq_of_testBit_eq
  intro j
  rcases Nat.lt_or_ge j 8 with g | g
  · exact h j g
  · have p : (2 : Nat) ^ 8 ≤ 2 ^ j := Nat.pow_le_pow_right (by decide) g
    have ha := a.toNat_lt
    have hb := b.toNat_lt
    rw [Nat.testBit_lt_two_pow (by omega), Nat.testBit_lt_two_pow (by omega)]

theorem Packs.unique {a b : List UInt8} {l : List Bool} (ha : Packs a l) (hb : Packs b l) : a = b := by
  apply List.ext_getElem (ha.1.trans hb.1.symm)
  intro k h1 h2
  apply u8_ext
  intro j hj
  have ea := ha.2 (8 * k + j)
  have eb := hb.2 (8 * k + j)
  rw [← eb] at ea
  simp only [bitAt] at ea
  have q : (8 * k + j) / 8 = k := by omega
  have r : (8 * k + j) % 8 = j := by omega
  rw [q, r] at ea
  simpa [List.getD_eq_getElem?_getD, h1, h2] using ea

theorem Packs.nil : Packs [] [] := ⟨rfl, fun i => by simp [bitAt]⟩

/-- One bit more, laid into the byte that has room for it. -/
theorem Packs.snoc {bs : List UInt8} {l : List Bool} (h : Packs bs l) (b : Bool) (bs' : List UInt8) (hbs : bs' = if l.length % 8 = 0 then bs ++ [0] else bs) (c : UInt8)
    (hc : c.toNat = (bs'.getD (l.length / 8) 0).toNat ||| b.toNat <<< (l.length % 8)) : Packs (bs'.set (l.length / 8) c) (l ++ [b]) := by
  have hlen : bs'.length = ((l ++ [b]).length + 7) / 8 := by
    rw [hbs]
    have := h.1
    split <;> simp <;> omega
  have hin : l.length / 8 < bs'.length := by rw [hlen]; simp; omega
  have hbit : ∀ i, bitAt bs' i = l.getD i false := by
    intro i
    rw [← h.2 i, hbs]
    split
    · simp only [bitAt, List.getD_eq_getElem?_getD, List.getElem?_append]
      split
      · rfl
      · rename_i g
        rw [List.getElem?_eq_none (l := bs) (by omega)]
        cases hz : i / 8 - bs.length <;> simp
    · rfl
  refine ⟨by simpa using hlen, fun i => ?_⟩
  by_cases hi : i / 8 = l.length / 8
  · have hb2 := hbit i
    simp only [bitAt, hi] at hb2 ⊢
    rw [List.getD_eq_getElem?_getD, List.getElem?_set_self hin, Option.getD_some, hc, Nat.testBit_or, hb2, Nat.testBit_shiftLeft]
    simp only [List.getD_eq_getElem?_getD, List.getElem?_append]
    by_cases hil : i < l.length
    · rw [if_pos hil]
      have : ¬ (i % 8 ≥ l.length % 8) := by omega
      simp [this]
    · rw [if_neg hil, List.getElem?_eq_none (l := l) (by omega)]
      by_cases hie : i = l.length
      · subst hie
        cases b <;> simp
      · have g1 : i % 8 ≥ l.length % 8 := by omega
        have g2 : i % 8 - l.length % 8 ≠ 0 := by omega
        rw [List.getElem?_eq_none (by simp; omega)]
        obtain ⟨m, hm⟩ : ∃ m, i % 8 - l.length % 8 = m + 1 := ⟨i % 8 - l.length % 8 - 1, by omega⟩
        cases b <;> simp [g1, hm, Nat.testBit_succ]
  · have : bitAt (bs'.set (l.length / 8) c) i = bitAt bs' i := by
      simp only [bitAt, List.getD_eq_getElem?_getD, List.getElem?_set_ne (Ne.symm hi)]
    rw [this, hbit]
    simp only [List.getD_eq_getElem?_getD, List.getElem?_append]
    split
    · rfl
    · rename_i g
      have hne : i - l.length ≠ 0 := by omega
      rw [List.getElem?_eq_none (l := l) (by omega), List.getElem?_eq_none (by simp; omega)]

theorem allBits_snoc (bs : List UInt8) (b : UInt8) : allBits (bs ++ [b]) = allBits bs ++ bitsOf b.toNat 8 := by
  apply List.ext_getElem?
  intro i
  rw [List.getElem?_append, allBits_length]
  split
  · rename_i h
    rw [allBits_get bs i h, allBits_get _ i (by simp; omega)]
    simp only [bitAt, List.getD_eq_getElem?_getD]
    rw [List.getElem?_append_left (by omega)]
  · rename_i h
    rcases Nat.lt_or_ge i (8 * bs.length + 8) with g | g
    · rw [allBits_get _ i (by simp; omega)]
      simp only [bitAt, bitsOf, List.getD_eq_getElem?_getD]
      rw [List.getElem?_append_right (by omega), show i / 8 - bs.length = 0 by omega, show i % 8 = i - 8 * bs.length by omega]
      simp [show i - 8 * bs.length < 8 by omega]
    · rw [List.getElem?_eq_none (by rw [allBits_length]; simp; omega), List.getElem?_eq_none (by rw [bitsOf_length]; omega)]
end Go.Proofs.YtflcmmeoppdhdaaGreat
namespace Go.Proofs.YtflcmmeoppdhdaaGreat

/-- A number's bytes. -/
def lput (n : Nat) : List UInt8 := if n < 128 then [UInt8.ofNat n] else UInt8.ofNat (128 + n % 128) :: lput (n / 128)
termination_by n
decreasing_by omega

theorem lput_small {n : Nat} (h : n < 128) : lput n = [UInt8.ofNat n] := by rw [lput, if_pos h]
theorem lput_big {n : Nat} (h : ¬ n < 128) : lput n = UInt8.ofNat (128 + n % 128) :: lput (n / 128) := by rw [lput, if_neg h]

theorem lput_len (n : Nat) : n < 18446744073709551616 → (lput n).length = max 1 ((Lib.bitLen n + 6) / 7) := by
  induction n using Nat.strongRecOn with
  | _ n ih =>
    intro hn
    by_cases h : n < 128
    · rw [lput_small h]
      have hb : Lib.bitLen n ≤ 7 := by
        have key : ∀ j : Fin 128, Lib.bitLen j.val ≤ 7 := by decide +kernel
        exact key ⟨n, h⟩
      simp; omega
    · rw [lput_big h, List.length_cons, ih (n / 128) (by omega) (by omega)]
      have s := Lib.bitLen_shift 7 n (by omega) hn
      have e : n / 2 ^ 7 = n / 128 := rfl
      rw [e] at s
      have hp : 1 ≤ Lib.bitLen (n / 128) := by
        have hq : n / 128 ≠ 0 := by omega
        have : Lib.bitLen (n / 128) = 1 + Lib.bitLenAux 63 (n / 128 / 2) := by unfold Lib.bitLen; rw [Lib.bitLenAux, if_neg hq]
        omega
      omega

theorem lput_pos (n : Nat) : 0 < (lput n).length := by
  rw [lput]; split <;> simp
theorem lput_le (n : Nat) (h : n < 18446744073709551616) : (lput n).length ≤ 10 := by
  rw [lput_len n h]
  have : Lib.bitLen n ≤ 64 := Lib.bitLenAux_le 64 n 64 (by omega)
  omega

/-- The number with which bytes begin (behind k of its bytes, whose bits come to acc), how many bytes it has, the error. -/
def lgetF : Nat → Nat → List UInt8 → Nat × Nat × Nat
  | _, _, [] => (0, 0, 11)
  | k, acc, c :: cs =>
    if k = 9 ∧ 1 < c.toNat then (0, 0, 21)
    else if 128 ≤ c.toNat then lgetF (k + 1) (acc + (c.toNat - 128) * 128 ^ k) cs
    else if c.toNat = 0 ∧ 0 < k then (0, 0, 21)
    else (acc + c.toNat * 128 ^ k, k + 1, 0)
def lget (l : List UInt8) : Nat × Nat × Nat := lgetF 0 0 l

theorem toNat_ofNat8 {n : Nat} (h : n < 256) : (UInt8.ofNat n).toNat = n := by simp [UInt8.toNat_ofNat']; omega

end Go.Proofs.YtflcmmeoppdhdaaGreat
namespace Go.Proofs.YtflcmmeoppdhdaaGreat

/-- The parameter of two counts: the least one for which N times 2 to the power of it is not below A. -/
def IsK (A N k : Nat) : Prop := A ≤ N * 2 ^ k ∧ ∀ j, j < k → N * 2 ^ j < A
theorem IsK.one {A N k k' : Nat} (h : IsK A N k) (h' : IsK A N k') : k = k' := by
  rcases Nat.lt_trichotomy k k' with e | e | e
  · have := h'.2 k e; have := h.1; omega
  · exact e
  · have := h.2 k' e; have := h'.1; omega
theorem isK_some {A N m : Nat} (h : A ≤ N * 2 ^ m) : ∃ k, k ≤ m ∧ IsK A N k := by
  induction m with
  | zero => exact ⟨0, Nat.le_refl _, h, fun j hj => by omega⟩
  | succ m ih =>
    by_cases h1 : A ≤ N * 2 ^ m
    · obtain ⟨k, hk, hi⟩ := ih h1
      exact ⟨k, by omega, hi⟩
    · refine ⟨m + 1, Nat.le_refl _, h, fun j hj => ?_⟩
      have h2 : 2 ^ j ≤ 2 ^ m := Nat.pow_le_pow_right (by decide) (by omega)
      have h3 := Nat.mul_le_mul_left N h2
      omega
/-- The counts behind a word. -/
def behindA (A N v : Nat) : Nat := if N + 1 = 32 then (A + min v 4294967296) / 2 else A + min v 4294967296
def behindN (N : Nat) : Nat := if N + 1 = 32 then 16 else N + 1
/-- Counts as they may be, of words of so many bits. -/
def CountsOk (D A N : Nat) : Prop := 1 ≤ N ∧ N ≤ 31 ∧ A ≤ N * 2 ^ D ∧ A ≤ N * 4294967296 + 16
theorem counts_start {D : Nat} (h : 8 ≤ D) : CountsOk D 16 1 := ⟨Nat.le_refl _, by decide, by
  have : 2 ^ 8 ≤ 2 ^ D := Nat.pow_le_pow_right (by decide) h
  omega, by decide⟩
theorem counts_behind {D A N v : Nat} (h : CountsOk D A N) (hv : v < 2 ^ D) : CountsOk D (behindA A N v) (behindN N) := by
  obtain ⟨h1, h2, h3, h4⟩ := h
  have hm : min v 4294967296 ≤ v := Nat.min_le_left _ _
  have hm2 : min v 4294967296 ≤ 4294967296 := Nat.min_le_right _ _
  obtain ⟨u, hu⟩ : ∃ u, u = min v 4294967296 := ⟨_, rfl⟩
  obtain ⟨P, hP⟩ : ∃ P, P = 2 ^ D := ⟨_, rfl⟩
  unfold CountsOk behindA behindN
  rw [← hu] at hm hm2 ⊢
  rw [← hP] at h3 hv ⊢
  by_cases hN : N + 1 = 32
  · rw [if_pos hN, if_pos hN]
    obtain rfl : N = 31 := by omega
    exact ⟨by decide, by decide, by omega, by omega⟩
  · rw [if_neg hN, if_neg hN]
    have e : (N + 1) * P = N * P + P := Nat.succ_mul N P
    exact ⟨by omega, by omega, by omega, by omega⟩
/-- A word's bits. -/
def riceW (D k v : Nat) : List Bool := if v / 2 ^ k < 24 then onesOf (v / 2 ^ k) 24 ++ bitsOf v k else onesOf 24 24 ++ bitsOf v D
theorem onesOf_len (n m : Nat) : (onesOf n m).length ≤ n + 1 ∧ (n = m → (onesOf n m).length = n) := by
  unfold onesOf
  by_cases h1 : n < m
  · rw [if_pos h1]; simp; omega
  · rw [if_neg h1]; simp
/-- P19.4. -/
theorem riceW_len {D k v : Nat} (hk : k ≤ D) : (riceW D k v).length ≤ 24 + D := by
  unfold riceW
  split
  · rename_i h
    have := (onesOf_len (v / 2 ^ k) 24).1
    rw [List.length_append, bitsOf_length]; omega
  · have := (onesOf_len 24 24).2 rfl
    rw [List.length_append, bitsOf_length]; omega
/-- Words' bits, from two counts on. -/
inductive RiceB (D : Nat) : Nat → Nat → List Nat → List Bool → Prop
  | none (A N : Nat) : RiceB D A N [] []
  | word (A N k v : Nat) (l : List Nat) (L : List Bool) (hk : IsK A N k) (hr : RiceB D (behindA A N v) (behindN N) l L) : RiceB D A N (v :: l) (riceW D k v ++ L)
theorem RiceB.one {D A N : Nat} {l : List Nat} {L L' : List Bool} (h : RiceB D A N l L) (h' : RiceB D A N l L') : L = L' := by
  induction h generalizing L' with
  | none => cases h'; rfl
  | word A N k v l L hk hr ih =>
    cases h' with
    | word _ _ k2 _ _ L2 hk2 hr2 =>
      obtain rfl := hk.one hk2
      rw [ih hr2]
theorem riceB_some {D : Nat} : ∀ (l : List Nat) (A N : Nat), CountsOk D A N → (∀ v ∈ l, v < 2 ^ D) → ∃ L, RiceB D A N l L ∧ L.length ≤ (24 + D) * l.length := by
  intro l
  induction l with
  | nil => intro A N _ _; exact ⟨[], .none A N, by simp⟩
  | cons v l ih =>
    intro A N h hl
    obtain ⟨k, hkD, hk⟩ := isK_some h.2.2.1
    obtain ⟨L, hr, hlen⟩ := ih _ _ (counts_behind h (hl v List.mem_cons_self)) fun x hx => hl x (List.mem_cons_of_mem _ hx)
    refine ⟨_, .word A N k v l L hk hr, ?_⟩
    have := riceW_len (v := v) hkD
    rw [List.length_append, List.length_cons, Nat.mul_succ]
    omega
end Go.Proofs.YtflcmmeoppdhdaaGreat
