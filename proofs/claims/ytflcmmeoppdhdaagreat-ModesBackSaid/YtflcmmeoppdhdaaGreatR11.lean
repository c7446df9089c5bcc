/-
  Layer 22: a word's bits turned round (math/bits.Reverse64). · Plain mathematics of layer 22: the bits of bytes by lens. · Layer 22: the program lays lens, and a code. · Plain mathematics of layer 14: shares of a power of two. Written ahead of the code.
-/
import Derived.Test.YtflcmmeoppdhdaaGreatR01
import Derived.Test.YtflcmmeoppdhdaaGreatR02
import Derived.Test.YtflcmmeoppdhdaaGreatR03
import Derived.Test.YtflcmmeoppdhdaaGreatR09
import Derived.Test.YtflcmmeoppdhdaaGreatR10
import Derived.Test.YtflcmmeoppdhdaaGreatProg
namespace Go.Proofs.YtflcmmeoppdhdaaGreat
open Go.RowKit

/-- Bits that are P apart change their places. -/
def swapN (s m x : Nat) : Nat := (x / 2 ^ s &&& m) ||| ((x &&& m) * 2 ^ s % 18446744073709551616)
theorem swapN_lt (s m x : Nat) (hx : x < 18446744073709551616) : swapN s m x < 18446744073709551616 := by
  have h1 : x / 2 ^ s &&& m < 2 ^ 64 := Nat.lt_of_le_of_lt Nat.and_le_left (Nat.lt_of_le_of_lt (Nat.div_le_self _ _) hx)
  have h2 : (x &&& m) * 2 ^ s % 18446744073709551616 < 2 ^ 64 := Nat.mod_lt _ (by decide)
  exact Nat.or_lt_two_pow h1 h2
theorem swapN_bit (s m x k : Nat) : (swapN s m x).testBit k = ((x.testBit (k + s) && m.testBit k) || (decide (k < 64) && (decide (s ≤ k) && (x.testBit (k - s) && m.testBit (k - s))))) := by
  unfold swapN
  rw [Nat.testBit_or, Nat.testBit_and, ← Nat.shiftRight_eq_div_pow, Nat.testBit_shiftRight, ← Nat.shiftLeft_eq, (by decide : 18446744073709551616 = 2 ^ 64), Nat.testBit_mod_two_pow, Nat.testBit_shiftLeft, Nat.testBit_and, Nat.add_comm s k]
/-- A mask of every other s bits. -/
def maskS (s m : Nat) : Prop := ∀ k, k < 64 → m.testBit k = decide (k / s % 2 = 0)
theorem swapN_at {s m x : Nat} (hm : maskS s m) (hs : s = 1 ∨ s = 2 ∨ s = 4 ∨ s = 8 ∨ s = 16 ∨ s = 32) {k : Nat} (hk : k < 64) : (swapN s m x).testBit k = x.testBit (if k / s % 2 = 0 then k + s else k - s) := by
  rw [swapN_bit, hm k hk]
  by_cases h : k / s % 2 = 0
  · rw [if_pos h, decide_eq_true h, Bool.and_true]
    by_cases h2 : s ≤ k
    · rw [hm (k - s) (by omega), decide_eq_false (show ¬ (k - s) / s % 2 = 0 by rcases hs with rfl | rfl | rfl | rfl | rfl | rfl <;> omega)]; simp
    · rw [decide_eq_false h2]; simp
  · rw [if_neg h, decide_eq_false h, Bool.and_false, Bool.false_or, decide_eq_true hk, Bool.true_and]
    have h2 : s ≤ k := by rcases hs with rfl | rfl | rfl | rfl | rfl | rfl <;> omega
    rw [decide_eq_true h2, hm (k - s) (by omega), decide_eq_true (show (k - s) / s % 2 = 0 by rcases hs with rfl | rfl | rfl | rfl | rfl | rfl <;> omega)]; simp
theorem mask1 : maskS 1 6148914691236517205 := by unfold maskS; decide +kernel
theorem mask2 : maskS 2 3689348814741910323 := by unfold maskS; decide +kernel
theorem mask4 : maskS 4 1085102592571150095 := by unfold maskS; decide +kernel
theorem mask8 : maskS 8 71777214294589695 := by unfold maskS; decide +kernel
theorem mask16 : maskS 16 281470681808895 := by unfold maskS; decide +kernel
/-- The last step: both halves change their places. -/
def halvesN (x : Nat) : Nat := x / 2 ^ 32 ||| x * 2 ^ 32 % 18446744073709551616
theorem halvesN_at {x k : Nat} (hx : x < 18446744073709551616) (hk : k < 64) : (halvesN x).testBit k = x.testBit (if k < 32 then k + 32 else k - 32) := by
  unfold halvesN
  rw [Nat.testBit_or, ← Nat.shiftRight_eq_div_pow, Nat.testBit_shiftRight, ← Nat.shiftLeft_eq, (by decide : 18446744073709551616 = 2 ^ 64), Nat.testBit_mod_two_pow, Nat.testBit_shiftLeft, Nat.add_comm 32 k, decide_eq_true hk, Bool.true_and]
  by_cases h : k < 32
  · rw [if_pos h, decide_eq_false (show ¬ 32 ≤ k by omega)]; simp
  · rw [if_neg h, decide_eq_true (show 32 ≤ k by omega), Nat.testBit_lt_two_pow (x := x) (i := k + 32) (Nat.lt_of_lt_of_le hx (Nat.pow_le_pow_right (n := 2) (by decide) (show 64 ≤ k + 32 by omega)))]; simp
def revN (x : Nat) : Nat := halvesN (swapN 16 281470681808895 (swapN 8 71777214294589695 (swapN 4 1085102592571150095 (swapN 2 3689348814741910323 (swapN 1 6148914691236517205 x)))))
theorem revN_at {x k : Nat} (hx : x < 18446744073709551616) (hk : k < 64) : (revN x).testBit k = x.testBit (63 - k) := by
  have h1 := swapN_lt 1 6148914691236517205 x hx
  have h2 := swapN_lt 2 3689348814741910323 _ h1
  have h3 := swapN_lt 4 1085102592571150095 _ h2
  have h4 := swapN_lt 8 71777214294589695 _ h3
  have h5 := swapN_lt 16 281470681808895 _ h4
  have key : ∀ k : Fin 64, (fun j => if j / 1 % 2 = 0 then j + 1 else j - 1) ((fun j => if j / 2 % 2 = 0 then j + 2 else j - 2) ((fun j => if j / 4 % 2 = 0 then j + 4 else j - 4) ((fun j => if j / 8 % 2 = 0 then j + 8 else j - 8) ((fun j => if j / 16 % 2 = 0 then j + 16 else j - 16) (if k.val < 32 then k.val + 32 else k.val - 32))))) = 63 - k.val := by decide +kernel
  have lt : ∀ s j : Nat, (s = 1 ∨ s = 2 ∨ s = 4 ∨ s = 8 ∨ s = 16) → j < 64 → (if j / s % 2 = 0 then j + s else j - s) < 64 := fun s j hs hj => by
    by_cases h : j / s % 2 = 0
    · rw [if_pos h]; rcases hs with rfl | rfl | rfl | rfl | rfl <;> omega
    · rw [if_neg h]; omega
  have l0 : (if k < 32 then k + 32 else k - 32) < 64 := by by_cases h : k < 32 <;> simp only [h, if_true, if_false] <;> omega
  have l1 := lt 16 _ (by decide) l0
  have l2 := lt 8 _ (by decide) l1
  have l3 := lt 4 _ (by decide) l2
  have l4 := lt 2 _ (by decide) l3
  unfold revN
  rw [halvesN_at h5 hk, swapN_at mask16 (by decide) l0, swapN_at mask8 (by decide) l1, swapN_at mask4 (by decide) l2, swapN_at mask2 (by decide) l3, swapN_at mask1 (by decide) l4]
  exact congrArg x.testBit (key ⟨k, hk⟩)
theorem halvesN_lt (x : Nat) (hx : x < 18446744073709551616) : halvesN x < 18446744073709551616 := by
  have h1 : x / 2 ^ 32 < 2 ^ 64 := Nat.lt_of_le_of_lt (Nat.div_le_self _ _) hx
  have h2 : x * 2 ^ 32 % 18446744073709551616 < 2 ^ 64 := Nat.mod_lt _ (by decide)
  exact Nat.or_lt_two_pow h1 h2
theorem revN_lt (x : Nat) (hx : x < 18446744073709551616) : revN x < 18446744073709551616 := halvesN_lt _ (swapN_lt _ _ _ (swapN_lt _ _ _ (swapN_lt _ _ _ (swapN_lt _ _ _ (swapN_lt _ _ _ hx)))))
theorem swap_val (s P m x : Nat) (hP : P = 2 ^ s) (hx : x < 18446744073709551616) (hm : m < 18446744073709551616) :
    bits .or .u64 (bits .and .u64 ((x : Int) / (P : Int)) (m : Int)) (IntKind.u64.wrap (bits .and .u64 (x : Int) (m : Int) * (P : Int))) = (swapN s m x : Int) := by
  have hd : x / P < 18446744073709551616 := Nat.lt_of_le_of_lt (Nat.div_le_self _ _) hx
  have e1 : bits .and .u64 ((x : Int) / (P : Int)) (m : Int) = ((x / P &&& m : Nat) : Int) := by
    obtain ⟨q, hq⟩ : ∃ q, q = x / P := ⟨_, rfl⟩
    rw [← hq] at hd
    rw [← Int.natCast_ediv, ← hq, u64_and _ _ (by omega) (by omega) (by omega) (by omega), Int.toNat_natCast, Int.toNat_natCast]
  have e2 : bits .and .u64 (x : Int) (m : Int) = ((x &&& m : Nat) : Int) := by
    rw [u64_and _ _ (by omega) (by omega) (by omega) (by omega), Int.toNat_natCast, Int.toNat_natCast]
  have l1 : x / P &&& m < 18446744073709551616 := Nat.lt_of_le_of_lt Nat.and_le_left hd
  have e3 : IntKind.u64.wrap (((x &&& m : Nat) : Int) * (P : Int)) = (((x &&& m) * P % 18446744073709551616 : Nat) : Int) := by
    rw [← Int.natCast_mul, IntKind.wrap_u64]; omega
  have l2 : (x &&& m) * P % 18446744073709551616 < 18446744073709551616 := Nat.mod_lt _ (by decide)
  rw [e1, e2, e3, u64_or _ _ (by omega) (by omega) (by omega) (by omega), Int.toNat_natCast, Int.toNat_natCast]
  subst hP
  rfl
theorem halves_val (x : Nat) (hx : x < 18446744073709551616) : bits .or .u64 ((x : Int) / 4294967296) (IntKind.u64.wrap ((x : Int) * 4294967296)) = (halvesN x : Int) := by
  have e1 : (x : Int) / 4294967296 = ((x / 4294967296 : Nat) : Int) := by omega
  have e3 : IntKind.u64.wrap ((x : Int) * 4294967296) = ((x * 4294967296 % 18446744073709551616 : Nat) : Int) := by
    rw [IntKind.wrap_u64]; omega
  have l1 : x / 4294967296 < 18446744073709551616 := Nat.lt_of_le_of_lt (Nat.div_le_self _ _) hx
  have l2 : x * 4294967296 % 18446744073709551616 < 18446744073709551616 := Nat.mod_lt _ (by decide)
  rw [e1, e3, u64_or _ _ (by omega) (by omega) (by omega) (by omega), Int.toNat_natCast, Int.toNat_natCast]
  rfl
set_option maxHeartbeats 1000000 in
theorem revBytes_any (x : Nat) (hx : x < 18446744073709551616) (w : World) :
    Calls Tryz.prog 204 #[.int .u64 (x : Int)] w fun e w' => e = .returned (.int .u64 (halvesN (swapN 16 281470681808895 (swapN 8 71777214294589695 x)) : Nat)) ∧ w' = w := by
  have h1 := swapN_lt 8 71777214294589695 x hx
  have h2 := swapN_lt 16 281470681808895 _ h1
  have v1 : bits .or .u64 (bits .and .u64 (((x : Nat) : Int) / 256) 71777214294589695) (IntKind.u64.wrap (bits .and .u64 ((x : Nat) : Int) 71777214294589695 * 256)) = (swapN 8 71777214294589695 x : Int) := swap_val 8 256 71777214294589695 x (by decide) hx (by decide)
  have v2 : bits .or .u64 (bits .and .u64 (((swapN 8 71777214294589695 x : Nat) : Int) / 65536) 281470681808895) (IntKind.u64.wrap (bits .and .u64 ((swapN 8 71777214294589695 x : Nat) : Int) 281470681808895 * 65536)) = (swapN 16 281470681808895 (swapN 8 71777214294589695 x) : Int) := swap_val 16 65536 281470681808895 _ (by decide) h1 (by decide)
  have v3 := halves_val _ h2
  obtain ⟨y, hy⟩ : ∃ y, y = swapN 8 71777214294589695 x := ⟨_, rfl⟩
  rw [← hy] at v1 v2 v3 h1 h2 ⊢
  obtain ⟨z, hz⟩ : ∃ z, z = swapN 16 281470681808895 y := ⟨_, rfl⟩
  rw [← hz] at v2 v3 h2 ⊢
  have V1 := Lib.hid v1
  have V2 := Lib.hid v2
  have V3 := Lib.hid v3
  clear v1 v2 v3 hy hz
  go_enter Tryz.func204, Tryz.ntmps204
  go_wp2
  go_ret
  refine ⟨ret_int ?_, rfl⟩
  simp only [V1.out, V2.out, V3.out]
set_option maxHeartbeats 1000000 in
theorem rev64_any (x : Nat) (hx : x < 18446744073709551616) (w : World) :
    Calls Tryz.prog 163 #[.int .u64 (x : Int)] w fun e w' => e = .returned (.int .u64 (revN x : Nat)) ∧ w' = w := by
  have h1 := swapN_lt 1 6148914691236517205 x hx
  have h2 := swapN_lt 2 3689348814741910323 _ h1
  have h3 := swapN_lt 4 1085102592571150095 _ h2
  have v1 : bits .or .u64 (bits .and .u64 (((x : Nat) : Int) / 2) 6148914691236517205) (IntKind.u64.wrap (bits .and .u64 ((x : Nat) : Int) 6148914691236517205 * 2)) = (swapN 1 6148914691236517205 x : Int) := swap_val 1 2 6148914691236517205 x (by decide) hx (by decide)
  have v2 : bits .or .u64 (bits .and .u64 (((swapN 1 6148914691236517205 x : Nat) : Int) / 4) 3689348814741910323) (IntKind.u64.wrap (bits .and .u64 ((swapN 1 6148914691236517205 x : Nat) : Int) 3689348814741910323 * 4)) = (swapN 2 3689348814741910323 (swapN 1 6148914691236517205 x) : Int) := swap_val 2 4 3689348814741910323 _ (by decide) h1 (by decide)
  have v3 : bits .or .u64 (bits .and .u64 (((swapN 2 3689348814741910323 (swapN 1 6148914691236517205 x) : Nat) : Int) / 16) 1085102592571150095) (IntKind.u64.wrap (bits .and .u64 ((swapN 2 3689348814741910323 (swapN 1 6148914691236517205 x) : Nat) : Int) 1085102592571150095 * 16)) = (swapN 4 1085102592571150095 (swapN 2 3689348814741910323 (swapN 1 6148914691236517205 x)) : Int) := swap_val 4 16 1085102592571150095 _ (by decide) h2 (by decide)
  have C := fun W => revBytes_any _ h3 W
  have hr : revN x = halvesN (swapN 16 281470681808895 (swapN 8 71777214294589695 (swapN 4 1085102592571150095 (swapN 2 3689348814741910323 (swapN 1 6148914691236517205 x))))) := rfl
  rw [← hr] at C
  obtain ⟨R, hR⟩ : ∃ R, R = revN x := ⟨_, rfl⟩
  rw [← hR] at C ⊢
  obtain ⟨y, hy⟩ : ∃ y, y = swapN 1 6148914691236517205 x := ⟨_, rfl⟩
  rw [← hy] at v1 v2 v3 C h1 h2 h3
  obtain ⟨z, hz⟩ : ∃ z, z = swapN 2 3689348814741910323 y := ⟨_, rfl⟩
  rw [← hz] at v2 v3 C h2 h3
  obtain ⟨u, hu⟩ : ∃ u, u = swapN 4 1085102592571150095 z := ⟨_, rfl⟩
  rw [← hu] at v3 C h3
  have V1 := Lib.hid v1
  have V2 := Lib.hid v2
  have V3 := Lib.hid v3
  have C := Lib.hid C
  clear v1 v2 v3 hy hz hu hr hR
  go_enter Tryz.func163, Tryz.ntmps163
  go_wp2_with fail
  simp only [V1.out, V2.out, V3.out]
  refine (C.out _).mono ?_
  rintro _ w1 ⟨rfl, hw1⟩
  subst w1
  go_wp2
  go_ret
  exact ⟨rfl, rfl⟩
end Go.Proofs.YtflcmmeoppdhdaaGreat
namespace Go.Proofs.YtflcmmeoppdhdaaGreat

/-- A code's bits, the highest first. -/
def codeB (c s : Nat) : List Bool := (bitsOf c s).reverse
theorem codeB_len (c s : Nat) : (codeB c s).length = s := by unfold codeB; rw [List.length_reverse, bitsOf_length]
theorem bitsOf_get (v n k : Nat) (h : k < n) : (bitsOf v n)[k]? = some (v.testBit k) := by simp [bitsOf, h]
theorem codeB_get (c s k : Nat) (h : k < s) : (codeB c s)[k]? = some (c.testBit (s - 1 - k)) := by
  unfold codeB
  rw [List.getElem?_reverse (by rw [bitsOf_length]; exact h), bitsOf_length, bitsOf_get _ _ _ (by omega)]
/-- The bits of a word turned round are a code's. -/
theorem codeB_turned (c s y : Nat) (hy : ∀ k, k < s → y.testBit k = c.testBit (s - 1 - k)) : bitsOf y s = codeB c s := by
  apply List.ext_getElem?
  intro k
  by_cases h : k < s
  · rw [codeB_get _ _ _ h, bitsOf_get _ _ _ h, hy k h]
  · rw [List.getElem?_eq_none (by rw [bitsOf_length]; omega), List.getElem?_eq_none (by rw [codeB_len]; omega)]
/-- What the first n bits of a code come to. -/
theorem pre_start {c s : Nat} (h : c < 2 ^ s) : c / 2 ^ (s - 0) = 0 := Nat.div_eq_of_lt h
theorem pre_next (c : Nat) {s n : Nat} (h : n < s) : c / 2 ^ (s - (n + 1)) = 2 * (c / 2 ^ (s - n)) + (c.testBit (s - 1 - n)).toNat := by
  have e : s - n = (s - (n + 1)) + 1 := by omega
  have e2 : s - 1 - n = s - (n + 1) := by omega
  rw [e, e2, Nat.pow_succ, ← Nat.div_div_eq_div_mul, Nat.testBit_eq_decide_div_mod_eq]
  obtain ⟨q, hq⟩ : ∃ q, q = c / 2 ^ (s - (n + 1)) := ⟨_, rfl⟩
  rw [← hq]
  rcases Nat.mod_two_eq_zero_or_one q with h | h
  · rw [h]; simp; omega
  · rw [h]; simp; omega
/-- A len's bits. -/
def lenB (x : Nat) : List Bool := if x = 0 then [false] else true :: bitsOf x 4
def lensB (o : List Nat) : List Bool := o.flatMap lenB
def letB (o : List Nat) (c : UInt8) : List Bool := codeB (codeL o c.toNat) (o.getD c.toNat 0)
def lettersB (o : List Nat) (b : List UInt8) : List Bool := b.flatMap (letB o)
def huffB (o : List Nat) (b : List UInt8) : List Bool := lensB o ++ lettersB o b
theorem lenB_len (x : Nat) : (lenB x).length = 1 + 4 * min x 1 := by
  unfold lenB
  by_cases h : x = 0
  · rw [if_pos h]; subst h; rfl
  · rw [if_neg h, List.length_cons, bitsOf_length]; omega
theorem lensB_next (o : List Nat) {k : Nat} (h : k < o.length) : lensB (o.take (k + 1)) = lensB (o.take k) ++ lenB o[k] := by
  unfold lensB
  rw [List.take_add_one, List.getElem?_eq_getElem h, List.flatMap_append]; simp
theorem lensB_len : ∀ o : List Nat, (lensB o).length ≤ 5 * o.length
  | [] => Nat.le_refl _
  | x :: o => by
    have := lensB_len o
    unfold lensB at *
    rw [List.flatMap_cons, List.length_append, lenB_len, List.length_cons]
    omega
theorem lensB_drop (o : List Nat) {k : Nat} (h : k < o.length) : lensB (o.drop k) = lenB o[k] ++ lensB (o.drop (k + 1)) := by
  unfold lensB
  rw [List.drop_eq_getElem_cons h, List.flatMap_cons]
theorem lettersB_next (o : List Nat) (b : List UInt8) {k : Nat} (h : k < b.length) : lettersB o (b.take (k + 1)) = lettersB o (b.take k) ++ letB o b[k] := by
  unfold lettersB
  rw [List.take_add_one, List.getElem?_eq_getElem h, List.flatMap_append]; simp
theorem lettersB_drop (o : List Nat) (b : List UInt8) {k : Nat} (h : k < b.length) : lettersB o (b.drop k) = letB o b[k] ++ lettersB o (b.drop (k + 1)) := by
  unfold lettersB
  rw [List.drop_eq_getElem_cons h, List.flatMap_cons]
theorem letB_len (o : List Nat) (c : UInt8) : (letB o c).length = o.getD c.toNat 0 := codeB_len _ _
theorem lettersB_len {o : List Nat} (ho : ∀ x ∈ o, x ≤ 15) : ∀ b : List UInt8, (lettersB o b).length ≤ 15 * b.length
  | [] => Nat.le_refl _
  | c :: b => by
    have := lettersB_len ho b
    have hc : o.getD c.toNat 0 ≤ 15 := by
      rw [List.getD_eq_getElem?_getD]
      by_cases h : c.toNat < o.length
      · rw [List.getElem?_eq_getElem h]; exact ho _ (List.getElem_mem h)
      · rw [List.getElem?_eq_none (by omega)]; exact Nat.zero_le _
    unfold lettersB at *
    rw [List.flatMap_cons, List.length_append, letB_len, List.length_cons]
    omega
theorem lettersB_least {o : List Nat} : ∀ b : List UInt8, (∀ c ∈ b, 1 ≤ o.getD c.toNat 0) → b.length ≤ (lettersB o b).length
  | [], _ => Nat.le_refl _
  | c :: b, h => by
    have := lettersB_least b fun x hx => h x (List.mem_cons_of_mem _ hx)
    have hc := h c List.mem_cons_self
    unfold lettersB at *
    rw [List.flatMap_cons, List.length_append, letB_len, List.length_cons]
    omega
/-- A code lies among the numbers of its bits. -/
theorem ends_pow {l : List Nat} (hk : ends (lenC l) 15 ≤ 32768) {s : Nat} (hs : s ≤ 15) : ends (lenC l) s ≤ 2 ^ s := by
  have h1 := bound_mono (lenC l) hs (Nat.le_refl 15)
  rw [bound_all] at h1
  unfold bound at h1
  have h2 : ends (lenC l) s * 2 ^ (15 - s) ≤ 2 ^ s * 2 ^ (15 - s) := by
    rw [← Nat.pow_add, show s + (15 - s) = 15 by omega]
    exact Nat.le_trans h1 hk
  exact Nat.le_of_mul_le_mul_right h2 (Nat.two_pow_pos _)
theorem codeL_pow {l : List Nat} (hk : ends (lenC l) 15 ≤ 32768) {i : Nat} (hi : i < l.length) (h0 : 1 ≤ l.getD i 0) (h15 : l.getD i 0 ≤ 15) : codeL l i < 2 ^ l.getD i 0 :=
  Nat.lt_of_lt_of_le (codeL_in l hi h0).2 (ends_pow hk h15)
/-- No letter has a code that is a beginning of another's. -/
theorem pre_none {l : List Nat} {i : Nat} (hi : i < l.length) (h15 : l.getD i 0 ≤ 15) {n : Nat} (hn : 1 ≤ n) (hns : n < l.getD i 0) {j : Nat} (hj : j < l.length) (hjn : l.getD j 0 = n) : codeL l j ≠ codeL l i / 2 ^ (l.getD i 0 - n) := fun e => by
  obtain ⟨s, hs⟩ : ∃ s, s = l.getD i 0 := ⟨_, rfl⟩
  have a1 := codeL_in l hi (by omega)
  have a2 := codeL_in l hj (by omega)
  rw [← hs] at a1 e hns h15
  rw [hjn] at a2
  obtain ⟨v, hv⟩ : ∃ v, v = codeL l i * 2 ^ (15 - s) := ⟨_, rfl⟩
  have v1 : v / 2 ^ (15 - s) = codeL l i := by rw [hv, Nat.mul_div_cancel _ (Nat.two_pow_pos _)]
  have v2 : v / 2 ^ (15 - n) = codeL l j := by
    rw [show 15 - n = (15 - s) + (s - n) by omega, Nat.pow_add, ← Nat.div_div_eq_div_mul, v1, e]
  have b1 : hit (lenC l) v s := by unfold hit; rw [v1]; exact a1
  have b2 : hit (lenC l) v n := by unfold hit; rw [v2]; exact a2
  exact hit_one (lenC l) v hn h15 hns b2 b1
end Go.Proofs.YtflcmmeoppdhdaaGreat
namespace Go.Proofs.YtflcmmeoppdhdaaGreat
open Go.RowKit Go.Sort

/-- Lens as they lie in a row. -/
def intL (l : List Nat) : List Int := l.map fun (x : Nat) => (x : Int)
theorem intL_len (l : List Nat) : (intL l).length = l.length := List.length_map ..
theorem intL_get (l : List Nat) {k : Nat} (h : k < l.length) : (zvs (intL l))[k]? = some (.int .i64 ((l[k] : Nat) : Int)) := by
  rw [zvs_get]; unfold intL; simp [h]
set_option maxHeartbeats 1000000 in
set_option maxRecDepth 100000 in
theorem layCode_any (g B : Nat) (l : List Bool) (c s : Nat) (w : World) (h : WrO w B g l) (hl : l.length ≤ 100000) (hc : c < 9223372036854775808) (hs : s ≤ 64) :
    Calls Tryz.prog 100 #[.pointer (some ⟨g, 0, none⟩), .int .i64 (c : Int), .int .i64 (s : Int)] w fun e w' => e = .returned (.tuple #[]) ∧ WrO w' B g (l ++ codeB c s) ∧ OnlyO B g w w' := by
  have hR := revN_lt c (by omega)
  have hbits : bitsOf (revN c / 2 ^ (64 - s)) s = codeB c s := codeB_turned c s _ fun k hk => by
    rw [← Nat.shiftRight_eq_div_pow, Nat.testBit_shiftRight, revN_at (by omega) (by omega)]
    congr 1
    omega
  have C1 := Lib.hid (fun W => rev64_any c (by omega) W)
  have hw1 := Lib.hid (show IntKind.u64.wrap (c : Int) = (c : Int) by rw [IntKind.wrap_u64]; omega)
  obtain ⟨R, hRe⟩ : ∃ R, R = revN c := ⟨_, rfl⟩
  rw [← hRe] at C1 hR hbits
  obtain ⟨V, hV⟩ : ∃ V, V = R / 2 ^ (64 - s) := ⟨_, rfl⟩
  rw [← hV] at hbits
  have hV64 : V < 18446744073709551616 := by rw [hV]; exact Nat.lt_of_le_of_lt (Nat.div_le_self _ _) hR
  have C2 := Lib.hid (oPut_any g B l V s w h (by omega) hV64 hs)
  rw [hbits] at C2
  obtain ⟨T, hT⟩ : ∃ T, T = 64 - s := ⟨_, rfl⟩
  rw [← hT] at hV
  have hT2 := Lib.hid (show IntKind.i64.wrap (64 - (s : Int)) = (T : Int) by rw [IntKind.wrap_i64]; omega)
  have hV2 := Lib.hid (show (R : Int) / 2 ^ T = (V : Int) by rw [hV]; simp)
  have hTs : (64 : Int) - (s : Int) = (T : Int) := by omega
  clear h hR hRe hbits hV hT hV64
  go_enter Tryz.func100, Tryz.ntmps100
  go_wp2_with fail
  first | rw [hw1.out] | skip
  refine (C1.out _).mono ?_
  rintro _ w1 ⟨rfl, hw⟩
  subst w1
  go_wp2_with fail
  rw [hV2.out]
  refine C2.out.mono ?_
  rintro _ w2 ⟨rfl, hw2, ho2⟩
  have HE := Lib.hid (And.intro hw2 ho2)
  clear hw2 ho2
  go_wp2
  refine bodyPost_end (results_none rfl _ _ _) rfl ?_
  exact ⟨rfl, HE.out.1, HE.out.2⟩
set_option maxHeartbeats 1000000 in
set_option maxRecDepth 100000 in
theorem layLens_any {r n m g B : Nat} {l : List Bool} {o : List Nat} (w : World) (h : WrO w B g l) (hr : Blk w r 3 (zvs (intL o))) (hrg : r ≠ g) (hn : o.length = n) (hn1 : n ≤ 256) (ho : ∀ x ∈ o, x ≤ 15) (hl : l.length ≤ 1000) :
    Calls Tryz.prog 98 #[.pointer (some ⟨g, 0, none⟩), .slice (some ⟨r, 0, none⟩) n m] w fun e w' => e = .returned (.tuple #[]) ∧ WrO w' B g (l ++ lensB o) ∧ OnlyO B g w w' := by
  have HR := Lib.hid hr
  have HN := Lib.hid (And.intro hn ho)
  have HS := Lib.hid (show WrO w B g (l ++ lensB (o.take 0)) by rw [List.take_zero, show lensB [] = [] from rfl, List.append_nil]; exact h)
  clear hr hn ho h
  go_enter Tryz.func98, Tryz.ntmps98
  go_wp2
  go_loopw [8] (fun i wr => ∃ k : Nat, k ≤ n ∧ i = .int .i64 (k : Int) ∧ WrO wr B g (l ++ lensB (o.take k)) ∧ OnlyO B g w wr) (fun i _ => n - (intOf i).toNat)
  case atStart => exact ⟨0, Nat.zero_le _, rfl, HS.out, OnlyO.refl _ _ _⟩
  case round =>
    clear HS
    obtain ⟨k, hk, rfl, hat, ho1⟩ := hrel
    have HAT := Lib.hid hat
    have HO := Lib.hid ho1
    by_cases hlt : k < n
    · have hko : k < o.length := by have := HN.out.1; omega
      have hcell := (ho1.blkT HR.out (by decide) hrg).cell k
      rw [intL_get o hko] at hcell
      have hnx := lensB_next o hko
      have hx15 := HN.out.2 _ (List.getElem_mem hko)
      obtain ⟨x, hx⟩ : ∃ x, x = o[k] := ⟨_, rfl⟩
      rw [← hx] at hcell hnx hx15
      have hll : (l ++ lensB (o.take k)).length ≤ 3000 := by
        have := lensB_len (o.take k)
        rw [List.length_append]
        rw [List.length_take] at this
        omega
      have HLL := Lib.hid hll
      have HNX := Lib.hid hnx
      have hki : (k : Int) < (n : Int) := by omega
      clear hat ho1 hx hnx hll
      by_cases hx0 : x = 0
      · subst hx0
        have C1 := Lib.hid (oPut_any g B _ 0 1 wr HAT.out (by have := HLL.out; omega) (by decide) (by decide))
        go_wp2_with fail
        refine C1.out.mono ?_
        rintro _ w1 ⟨rfl, hw1, ho1⟩
        have HW1 := Lib.hid (show WrO w1 B g (l ++ lensB (o.take (k + 1))) by rw [HNX.out, ← List.append_assoc]; exact hw1)
        have HO1 := Lib.hid (HO.out.trans ho1)
        clear hw1 ho1 C1
        go_wp2
        go_roundw
        case rel => exact ⟨k + 1, by omega, by go_num, HW1.out, HO1.out⟩
        case measure => simp [intOf]; omega
      · have hxi : ¬ (x : Int) = 0 := by omega
        have hlb : lenB x = [true] ++ bitsOf x 4 := by unfold lenB; rw [if_neg hx0]; rfl
        have HLB := Lib.hid hlb
        have hxw := Lib.hid (show IntKind.u64.wrap (x : Int) = (x : Int) by rw [IntKind.wrap_u64]; omega)
        have C1 := Lib.hid (oPut_any g B _ 1 1 wr HAT.out (by have := HLL.out; omega) (by decide) (by decide))
        clear hlb
        go_wp2_with fail
        refine C1.out.mono ?_
        rintro _ w1 ⟨rfl, hw1, ho1⟩
        have C2 := Lib.hid (oPut_any g B _ x 4 w1 hw1 (by rw [List.length_append, bitsOf_length]; have := HLL.out; omega) (by omega) (by decide))
        have HO1 := Lib.hid (HO.out.trans ho1)
        clear hw1 ho1 C1 hcell
        go_wp2_with fail
        first | rw [hxw.out] | skip
        refine C2.out.mono ?_
        rintro _ w2 ⟨rfl, hw2, ho2⟩
        have HW2 := Lib.hid (show WrO w2 B g (l ++ lensB (o.take (k + 1))) by rw [HNX.out, HLB.out, ← List.append_assoc, ← List.append_assoc]; exact hw2)
        have HO2 := Lib.hid (HO1.out.trans ho2)
        clear hw2 ho2 C2 HO1
        go_wp2
        go_roundw
        case rel => exact ⟨k + 1, by omega, by go_num, HW2.out, HO2.out⟩
        case measure => simp [intOf]; omega
    · obtain rfl : k = n := by omega
      have HE := Lib.hid (And.intro hat ho1)
      clear hat ho1
      go_wp2
      refine bodyPost_end (results_none rfl _ _ _) rfl ?_
      refine ⟨rfl, ?_, HE.out.2⟩
      have := HE.out.1
      rwa [List.take_of_length_le (Nat.le_of_eq HN.out.1)] at this
end Go.Proofs.YtflcmmeoppdhdaaGreat
namespace Go.Proofs.YtflcmmeoppdhdaaGreat

/-- Place k has the greatest, the first of such. -/
def IsFirst (l : List Int) (k : Nat) : Prop := k < l.length ∧ (∀ j, j < l.length → l.getD j 0 ≤ l.getD k 0) ∧ ∀ j, j < k → l.getD j 0 < l.getD k 0
theorem IsFirst.one {l : List Int} {a b : Nat} (h : IsFirst l a) (h' : IsFirst l b) : a = b := by
  rcases Nat.lt_trichotomy a b with e | e | e
  · have := h'.2.2 a e; have := h.2.1 b h'.1; omega
  · exact e
  · have := h.2.2 b e; have := h'.2.1 a h.1; omega
theorem getD_take (l : List Int) {i j : Nat} (h : j < i) : (l.take i).getD j 0 = l.getD j 0 := by
  simp [List.getD_eq_getElem?_getD, List.getElem?_take_of_lt h]
theorem first_start (l : List Int) (h : 0 < l.length) : IsFirst (l.take 1) 0 := by
  refine ⟨by simp; omega, fun j hj => ?_, fun j hj => by omega⟩
  have : j = 0 := by simp at hj; omega
  subst this; exact Int.le_refl _
/-- A place more is looked at. -/
theorem first_next (l : List Int) {i a : Nat} (h : IsFirst (l.take i) a) (hi : i < l.length) : IsFirst (l.take (i + 1)) (if l.getD a 0 < l.getD i 0 then i else a) := by
  obtain ⟨h1, h2, h3⟩ := h
  have hlen : (l.take i).length = i := by simp; omega
  have hlen2 : (l.take (i + 1)).length = i + 1 := by simp; omega
  rw [hlen] at h1 h2
  have g2 : ∀ j, j < i → l.getD j 0 ≤ l.getD a 0 := fun j hj => by have := h2 j hj; rwa [getD_take l hj, getD_take l h1] at this
  have g3 : ∀ j, j < a → l.getD j 0 < l.getD a 0 := fun j hj => by have := h3 j hj; rwa [getD_take l (by omega), getD_take l h1] at this
  split
  · rename_i hlt
    refine ⟨by rw [hlen2]; omega, fun j hj => ?_, fun j hj => ?_⟩
    · rw [hlen2] at hj
      rw [getD_take l hj, getD_take l (by omega)]
      rcases Nat.lt_or_ge j i with e | e
      · have := g2 j e; omega
      · obtain rfl : j = i := by omega
        exact Int.le_refl _
    · rw [getD_take l (by omega), getD_take l (by omega)]
      have := g2 j hj; omega
  · rename_i hlt
    refine ⟨by rw [hlen2]; omega, fun j hj => ?_, fun j hj => ?_⟩
    · rw [hlen2] at hj
      rw [getD_take l hj, getD_take l (by omega)]
      rcases Nat.lt_or_ge j i with e | e
      · exact g2 j e
      · obtain rfl : j = i := by omega
        omega
    · rw [getD_take l (by omega), getD_take l (by omega)]
      exact g3 j hj

/-- A share, ahead of what is made good. -/
def nShare (t s c : Int) : Int := if 0 < c ∧ c * t / s = 0 then 1 else c * t / s
/-- So often the greatest is one less. -/
inductive Trim : Nat → List Int → List Int → Prop
  | done (l : List Int) : Trim 0 l l
  | more (n k : Nat) (l r : List Int) (h : IsFirst l k) (hr : Trim n (l.set k (l.getD k 0 - 1)) r) : Trim (n + 1) l r
theorem Trim.one {n : Nat} {l r r' : List Int} (h : Trim n l r) (h' : Trim n l r') : r = r' := by
  induction h with
  | done l => cases h'; rfl
  | more n k l r hf hr ih =>
    cases h' with
    | more _ k' _ _ hf' hr' =>
      obtain rfl := hf.one hf'
      exact ih hr'
/-- The shares of counts. -/
def NormR (c : List Int) (t : Int) (r : List Int) : Prop :=
  if (c.map (nShare t c.sum)).sum < t then ∃ k, IsFirst c k ∧ r = (c.map (nShare t c.sum)).set k ((c.map (nShare t c.sum)).getD k 0 + (t - (c.map (nShare t c.sum)).sum))
  else Trim ((c.map (nShare t c.sum)).sum - t).toNat (c.map (nShare t c.sum)) r
theorem NormR.one {c : List Int} {t : Int} {r r' : List Int} (h : NormR c t r) (h' : NormR c t r') : r = r' := by
  unfold NormR at h h'
  split at h
  · rename_i hlt
    rw [if_pos hlt] at h'
    obtain ⟨k, hk, rfl⟩ := h
    obtain ⟨k', hk', rfl⟩ := h'
    rw [hk.one hk']
  · rename_i hlt
    rw [if_neg hlt] at h'
    exact h.one h'

/-- How many are above 0. -/
def many (l : List Int) : Int := (l.map fun x => if 0 < x then (1 : Int) else 0).sum
theorem set_sum14 : ∀ (l : List Int) (k : Nat) (x : Int), k < l.length → (l.set k x).sum = l.sum + (x - l.getD k 0) := by
  intro l
  induction l with
  | nil => intro k x h; simp at h
  | cons a l ih =>
    intro k x h
    cases k with
    | zero => simp; omega
    | succ k => have := ih k x (by simpa using h); simp at this ⊢; omega
theorem getD_set14 (l : List Int) (k j : Nat) (x : Int) (h : k < l.length) : (l.set k x).getD j 0 = if k = j then x else l.getD j 0 := by
  by_cases e : k = j
  · subst e; simp [List.getD_eq_getElem?_getD, h]
  · simp [List.getD_eq_getElem?_getD, List.getElem?_set_ne e, e]
/-- The same places are above 0. -/
def Alike (c l : List Int) : Prop := l.length = c.length ∧ ∀ j, j < c.length → 0 ≤ l.getD j 0 ∧ (l.getD j 0 = 0 ↔ c.getD j 0 = 0)
theorem Alike.many {c l : List Int} (h : Alike c l) (hc : ∀ x ∈ c, 0 ≤ x) : many l = many c := by
  have e : (l.map fun x => if 0 < x then (1 : Int) else 0) = c.map fun x => if 0 < x then (1 : Int) else 0 := by
    refine List.ext_getElem (by simp [h.1]) fun j h1 h2 => ?_
    simp only [List.getElem_map]
    have hj : j < c.length := by simpa using h2
    have hl : j < l.length := by simpa using h1
    have hx := h.2 j hj
    have e1 : l.getD j 0 = l[j] := by simp [List.getD_eq_getElem?_getD, hl]
    have e2 : c.getD j 0 = c[j] := by simp [List.getD_eq_getElem?_getD, hj]
    rw [e1, e2] at hx
    have := hc _ (List.getElem_mem hj)
    by_cases h0 : 0 < l[j]
    · rw [if_pos h0, if_pos (by have := hx.2; omega)]
    · rw [if_neg h0, if_neg (by have := hx.2; omega)]
  unfold Go.Proofs.YtflcmmeoppdhdaaGreat.many; rw [e]
theorem sum_le_many {l : List Int} (h : ∀ x ∈ l, x ≤ 1) (h0 : ∀ x ∈ l, 0 ≤ x) : l.sum ≤ many l := by
  induction l with
  | nil => simp [many]
  | cons a l ih =>
    have h1 := ih (fun x hx => h x (List.mem_cons_of_mem _ hx)) (fun x hx => h0 x (List.mem_cons_of_mem _ hx))
    have h2 := h a List.mem_cons_self
    have h3 := h0 a List.mem_cons_self
    simp only [many, List.map_cons, List.sum_cons] at h1 ⊢
    split <;> omega
theorem all_nn14 {c l : List Int} (h : Alike c l) : ∀ x ∈ l, 0 ≤ x := by
  intro x hx
  obtain ⟨j, hj, rfl⟩ := List.getElem_of_mem hx
  have := (h.2 j (by rw [← h.1]; exact hj)).1
  simpa [List.getD_eq_getElem?_getD, hj] using this
/-- Where they are too many, the greatest is more than 1. -/
theorem first_two {c l : List Int} (ha : Alike c l) (hc : ∀ x ∈ c, 0 ≤ x) {t : Int} (ht : many c ≤ t) (hs : t < l.sum) {k : Nat} (hk : IsFirst l k) : 2 ≤ l.getD k 0 := by
  refine Int.not_lt.1 fun h => ?_
  have h1 : ∀ x ∈ l, x ≤ 1 := by
    intro x hx
    obtain ⟨j, hj, rfl⟩ := List.getElem_of_mem hx
    have := hk.2.1 j hj
    have e : l.getD j 0 = l[j] := by simp [List.getD_eq_getElem?_getD, hj]
    omega
  have := sum_le_many h1 (all_nn14 ha)
  rw [ha.many hc] at this
  omega
theorem Trim.keeps {c : List Int} {t : Int} (hc : ∀ x ∈ c, 0 ≤ x) (ht : many c ≤ t) {n : Nat} {l r : List Int} (h : Trim n l r) : Alike c l → l.sum = t + n → Alike c r ∧ r.sum = t := by
  induction h with
  | done l => intro ha hs; exact ⟨ha, by simpa using hs⟩
  | more n k l r hf hr ih =>
    intro ha hs
    have h2 := first_two ha hc ht (by omega) hf
    refine ih ⟨by rw [List.length_set]; exact ha.1, fun j hj => ?_⟩ (by rw [set_sum14 l k _ hf.1]; omega)
    rw [getD_set14 l k j _ hf.1]
    have := ha.2 j hj
    split
    · rename_i e; subst e; constructor
      · omega
      · constructor
        · intro; omega
        · intro hz; have := this.2.2 hz; omega
    · exact this
theorem nShare_nn {t s c : Int} (hc : 0 ≤ c) (ht : 0 ≤ t) (hs : 0 < s) : 0 ≤ nShare t s c ∧ (nShare t s c = 0 ↔ c = 0) := by
  unfold nShare
  have h0 : 0 ≤ c * t / s := Int.ediv_nonneg (Int.mul_nonneg hc ht) (by omega)
  by_cases h : 0 < c ∧ c * t / s = 0
  · rw [if_pos h]; constructor
    · decide
    · constructor
      · intro x; cases x
      · intro x; omega
  · rw [if_neg h]
    refine ⟨h0, fun x => ?_, fun x => by subst x; simp⟩
    rcases Int.lt_or_le 0 c with hp | hp
    · exact (h ⟨hp, x⟩).elim
    · omega
theorem alike_shares {c : List Int} (hc : ∀ x ∈ c, 0 ≤ x) {t : Int} (ht : 0 ≤ t) (hs : 0 < c.sum) : Alike c (c.map (nShare t c.sum)) := by
  refine ⟨by simp, fun j hj => ?_⟩
  have e1 : (c.map (nShare t c.sum)).getD j 0 = nShare t c.sum c[j] := by simp [List.getD_eq_getElem?_getD, hj]
  have e2 : c.getD j 0 = c[j] := by simp [List.getD_eq_getElem?_getD, hj]
  rw [e1, e2]
  exact nShare_nn (hc _ (List.getElem_mem hj)) ht hs
/-- P14.3. -/
theorem NormR.keeps {c : List Int} (hc : ∀ x ∈ c, 0 ≤ x) {t : Int} (ht0 : 0 ≤ t) (hs : 0 < c.sum) (ht : many c ≤ t) {r : List Int} (h : NormR c t r) : Alike c r ∧ r.sum = t := by
  have ha := alike_shares hc ht0 hs
  unfold NormR at h
  split at h
  · rename_i hlt
    obtain ⟨k, hk, rfl⟩ := h
    have hkl : k < (c.map (nShare t c.sum)).length := by simpa using hk.1
    refine ⟨⟨by simp, fun j hj => ?_⟩, by rw [set_sum14 _ k _ hkl]; omega⟩
    rw [getD_set14 _ k j _ hkl]
    have h1 := ha.2 j hj
    split
    · rename_i e; subst e
      have hpos : 0 < c.getD k 0 := by
        refine Int.not_le.1 fun hle => ?_
        have hall : ∀ x ∈ c, x = 0 := fun x hx => by
          obtain ⟨i, hi, rfl⟩ := List.getElem_of_mem hx
          have := hk.2.1 i hi
          have e : c.getD i 0 = c[i] := by simp [List.getD_eq_getElem?_getD, hi]
          have := hc _ (List.getElem_mem hi)
          omega
        have : c.sum = 0 := by
          clear hs ha h1 hlt hk hkl hj ht hle hc
          induction c with
          | nil => rfl
          | cons a c ih => simp [hall a List.mem_cons_self, ih fun x hx => hall x (List.mem_cons_of_mem _ hx)]
        omega
      constructor
      · omega
      · constructor
        · intro; omega
        · intro hz; omega
    · exact h1
  · rename_i hlt
    exact h.keeps hc ht ha (by omega)

/-- Of some there is a first greatest one. -/
theorem first_some (l : List Int) (h : 0 < l.length) : ∃ k, IsFirst l k := by
  have key : ∀ i, 0 < i → i ≤ l.length → ∃ k, IsFirst (l.take i) k := by
    intro i
    induction i with
    | zero => intro h; omega
    | succ i ih =>
      intro _ hi
      rcases Nat.eq_zero_or_pos i with rfl | h0
      · exact ⟨0, first_start l h⟩
      · obtain ⟨k, hk⟩ := ih h0 (by omega)
        exact ⟨_, first_next l hk (by omega)⟩
  obtain ⟨k, hk⟩ := key l.length h (Nat.le_refl _)
  rw [List.take_length] at hk
  exact ⟨k, hk⟩
theorem many_pos {c : List Int} (hc : ∀ x ∈ c, 0 ≤ x) : 0 ≤ many c ∧ many c ≤ c.sum := by
  induction c with
  | nil => simp [many]
  | cons a c ih =>
    have h1 := ih fun x hx => hc x (List.mem_cons_of_mem _ hx)
    have h2 := hc a List.mem_cons_self
    simp only [many, List.map_cons, List.sum_cons] at h1 ⊢
    split <;> omega
theorem nShare_le {t s x : Int} (hx : x ≤ s) (ht : 1 ≤ t) (hs : 0 < s) : nShare t s x ≤ t := by
  unfold nShare
  split
  · exact ht
  · refine Int.ediv_le_of_le_mul hs ?_
    rw [Int.mul_comm t s]
    exact Int.mul_le_mul_of_nonneg_right hx (by omega)
theorem sum_most (M : Nat) {l : List Int} (h : ∀ x ∈ l, x ≤ (M : Int)) : l.sum ≤ ((l.length * M : Nat) : Int) := by
  induction l with
  | nil => simp
  | cons a l ih =>
    have h1 := ih fun x hx => h x (List.mem_cons_of_mem _ hx)
    have h2 := h a List.mem_cons_self
    simp only [List.sum_cons, List.length_cons, Nat.succ_mul]
    omega
/-- One byte more is counted. -/
def cntStep (acc : List Int) (b : UInt8) : List Int := acc.set b.toNat (acc.getD b.toNat 0 + 1)
/-- How often each byte is there. -/
def cntL (l : List UInt8) : List Int := l.foldl cntStep (List.replicate 256 0)
theorem cntL_snoc (l : List UInt8) (b : UInt8) : cntL (l ++ [b]) = cntStep (cntL l) b := by unfold cntL; rw [List.foldl_append]; rfl
theorem cntL_take (l : List UInt8) {k : Nat} (h : k < l.length) : cntL (l.take (k + 1)) = cntStep (cntL (l.take k)) l[k] := by
  rw [List.take_add_one, List.getElem?_eq_getElem h]; exact cntL_snoc _ _
theorem cnt_fold (l : List UInt8) : ∀ (acc : List Int) (M : Nat), acc.length = 256 → (∀ x ∈ acc, 0 ≤ x ∧ x ≤ (M : Int)) → (l.foldl cntStep acc).length = 256 ∧ ∀ x ∈ l.foldl cntStep acc, 0 ≤ x ∧ x ≤ ((M + l.length : Nat) : Int) := by
  induction l with
  | nil => intro acc M h1 h2; exact ⟨h1, h2⟩
  | cons b l ih =>
    intro acc M h1 h2
    have hb : b.toNat < acc.length := by rw [h1]; exact b.toNat_lt
    have e : acc.getD b.toNat 0 = acc[b.toNat] := by simp [List.getD_eq_getElem?_getD, hb]
    have hg := h2 _ (List.getElem_mem hb)
    have := ih (cntStep acc b) (M + 1) (by simp [cntStep, h1]) (fun x hx => by
      rcases List.mem_or_eq_of_mem_set hx with h | h
      · have := h2 x h; omega
      · rw [h, e]; omega)
    simp only [List.foldl_cons, List.length_cons]
    refine ⟨this.1, fun x hx => ?_⟩
    have := this.2 x hx
    omega
theorem cntL_len (l : List UInt8) : (cntL l).length = 256 := (cnt_fold l (List.replicate 256 0) 0 List.length_replicate (fun x hx => by obtain ⟨-, rfl⟩ := List.mem_replicate.1 hx; omega)).1
theorem cntL_le (l : List UInt8) : ∀ x ∈ cntL l, 0 ≤ x ∧ x ≤ (l.length : Int) := fun x hx => by
  have := (cnt_fold l (List.replicate 256 0) 0 List.length_replicate (fun x hx => by obtain ⟨-, rfl⟩ := List.mem_replicate.1 hx; omega)).2 x hx
  omega
theorem cntStep_get (acc : List Int) (h : acc.length = 256) (b : UInt8) (j : Nat) : (cntStep acc b).getD j 0 = if b.toNat = j then acc.getD j 0 + 1 else acc.getD j 0 := by
  have hb : b.toNat < acc.length := by rw [h]; exact b.toNat_lt
  unfold cntStep
  rw [getD_set14 acc b.toNat j _ hb]
  split
  · rename_i e; rw [e]
  · rfl
theorem cnt_grow (l : List UInt8) : ∀ (acc : List Int), acc.length = 256 → ∀ j, acc.getD j 0 ≤ (l.foldl cntStep acc).getD j 0 := by
  induction l with
  | nil => intro acc _ j; exact Int.le_refl _
  | cons b l ih =>
    intro acc h j
    have h1 := ih (cntStep acc b) (by simp [cntStep, h]) j
    rw [cntStep_get acc h b j] at h1
    simp only [List.foldl_cons]
    split at h1 <;> omega
/-- What is there is counted. -/
theorem cnt_mem (l : List UInt8) : ∀ (acc : List Int), acc.length = 256 → (∀ j, 0 ≤ acc.getD j 0) → ∀ b ∈ l, 0 < (l.foldl cntStep acc).getD b.toNat 0 := by
  induction l with
  | nil => intro acc _ _ b hb; simp at hb
  | cons a l ih =>
    intro acc h h0 b hb
    have hl : (cntStep acc a).length = 256 := by simp [cntStep, h]
    simp only [List.foldl_cons]
    rcases List.mem_cons.1 hb with rfl | hb
    · have h1 := cnt_grow l (cntStep acc b) hl b.toNat
      rw [cntStep_get acc h b b.toNat, if_pos rfl] at h1
      have := h0 b.toNat
      omega
    · refine ih (cntStep acc a) hl (fun j => ?_) b hb
      rw [cntStep_get acc h a j]
      have := h0 j
      split <;> omega
theorem cntL_mem {l : List UInt8} {b : UInt8} (h : b ∈ l) : 0 < (cntL l).getD b.toNat 0 :=
  cnt_mem l (List.replicate 256 0) List.length_replicate (fun j => by
    rw [List.getD_eq_getElem?_getD, List.getElem?_replicate]
    split
    · exact Int.le_refl _
    · exact Int.le_refl _) b h
end Go.Proofs.YtflcmmeoppdhdaaGreat
