/- Layer 30: what was put is got; what was cut ends too early; lengths. Pure. -/
import Derived.Test.YtcjjlkfenlmmlaaBlkRGet
namespace Go.Proofs.Ytcjjlkfenlmmlaa
open Go.RowKit

theorem nbR_put {x a b : Nat} (h40 : x ≤ 1099511627776) (ha : a ≤ x) (hb : x ≤ b) (more : List UInt8) : nbR (lget (lput x ++ more)) a b = (x, (lput x).length, 0) := by
  rw [lget_put x more (by omega)]
  unfold nbR
  rw [if_pos rfl, if_pos ⟨h40, ha, hb⟩]
theorem nbR_cut {x i : Nat} (a b : Nat) (h40 : x ≤ 1099511627776) (hi : i < (lput x).length) : nbR (lget ((lput x).take i)) a b = (0, 0, 11) := by
  rw [lget_cut x i (by omega) hi]
  rfl
theorem sum4_four {su : Nat} (h : su < 4294967296) (more : List UInt8) : sum4 (fourL su ++ more) = su := by
  obtain ⟨c0, c1, c2, c3, h4, e0, e1, e2, e3⟩ := four_vals su
  rw [h4]
  unfold sum4
  show c0.toNat + 256 * c1.toNat + 65536 * c2.toNat + 16777216 * c3.toNat = su
  omega
theorem mayBk_nat {mo ra mi co most : Nat} (h : mayBk (mo : Int) (ra : Int) (mi : Int) (co : Int) (most : Int) = true) : mo ≤ 5 ∧ 1 ≤ ra ∧ ra ≤ most ∧ (mo = 0 → mi = 0 ∧ co = ra) ∧ (mo ≠ 0 → mi ≤ 3 * ra + 64 ∧ co < ra) := by
  unfold mayBk at h
  by_cases h0 : mo = 0
  · subst h0
    simp at h
    omega
  · rw [if_neg (by omega)] at h
    simp at h
    omega
theorem blk_hd (mo : Nat) (h : mo ≤ 5) (T : List UInt8) : ((UInt8.ofNat (mo + 1) :: T).getD 0 0).toNat = mo + 1 := by
  show (UInt8.ofNat (mo + 1)).toNat = mo + 1
  rw [UInt8.toNat_ofNat']
  omega
/-- Get of a block's first byte, and of what is behind it. -/
theorem getB_hd {mo : Nat} (h : mo ≤ 5) (T : List UInt8) (most : Nat) : getB (UInt8.ofNat (mo + 1) :: T) most = getB2 (UInt8.ofNat (mo + 1) :: T) (mo + 1) (nbR (lget T) 1 most) := by
  unfold getB
  rw [if_neg (by simp), blk_hd mo h, if_neg (by omega)]
  rfl
theorem getB2_bad (l : List UInt8) (x e : Nat) (he : e ≠ 0) : getB2 l x (0, 0, e) = ((0, 0, 0, 0, 0), 0, e) := by
  unfold getB2
  rw [if_pos he]
theorem drop1 (c : UInt8) (P T : List UInt8) : (c :: (P ++ T)).drop (1 + P.length) = T := by
  rw [Nat.add_comm, List.drop_succ_cons, List.drop_left]
theorem drop2 (c : UInt8) (P Q T : List UInt8) : (c :: (P ++ (Q ++ T))).drop (1 + P.length + Q.length) = T := by
  rw [← List.drop_drop, drop1, List.drop_left]
theorem drop3 (c : UInt8) (P Q S T : List UInt8) : (c :: (P ++ (Q ++ (S ++ T)))).drop (1 + P.length + Q.length + S.length) = T := by
  rw [← List.drop_drop, drop2, List.drop_left]
/-- A stored block. -/
theorem getB_stored {ra most : Nat} (h1 : 1 ≤ ra) (hm : ra ≤ most) (hb : most ≤ 16777216) (T : List UInt8) :
    getB (UInt8.ofNat (0 + 1) :: (lput ra ++ T)) most = if T.length < 4 then ((0, 0, 0, 0, 0), 0, 11) else ((0, ra, 0, ra, sum4 T), 1 + (lput ra).length + 4, 0) := by
  rw [getB_hd (by decide), nbR_put (by omega) h1 hm]
  unfold getB2
  rw [if_neg (fun h => h rfl), if_pos rfl]
  simp only [drop1]
  have hl : (UInt8.ofNat (0 + 1) :: (lput ra ++ T)).length = 1 + (lput ra).length + T.length := by rw [List.length_cons, List.length_append]; omega
  rw [hl]
  by_cases h4 : T.length < 4
  · rw [if_pos h4, if_pos (by omega)]
  · rw [if_neg h4, if_neg (by omega)]
theorem getB_mid {mo ra most : Nat} (hmo : mo ≤ 5) (h0 : mo ≠ 0) (h1 : 1 ≤ ra) (hm : ra ≤ most) (hb : most ≤ 16777216) (T : List UInt8) (he : nbR (lget T) 0 (3 * ra + 64) = (0, 0, 11)) :
    getB (UInt8.ofNat (mo + 1) :: (lput ra ++ T)) most = ((0, 0, 0, 0, 0), 0, 11) := by
  rw [getB_hd hmo, nbR_put (by omega) h1 hm]
  unfold getB2
  rw [if_neg (fun h => h rfl), if_neg (by omega)]
  simp only [drop1, he]
  rfl
theorem getB_coded {mo ra mi most : Nat} (hmo : mo ≤ 5) (h0 : mo ≠ 0) (h1 : 1 ≤ ra) (hm : ra ≤ most) (hb : most ≤ 16777216) (hmi : mi ≤ 3 * ra + 64) (T : List UInt8) (he : nbR (lget T) 0 (ra - 1) = (0, 0, 11)) :
    getB (UInt8.ofNat (mo + 1) :: (lput ra ++ (lput mi ++ T))) most = ((0, 0, 0, 0, 0), 0, 11) := by
  rw [getB_hd hmo, nbR_put (by omega) h1 hm]
  unfold getB2
  rw [if_neg (fun h => h rfl), if_neg (by omega)]
  simp only [drop1, nbR_put (show mi ≤ 1099511627776 by omega) (Nat.zero_le mi) hmi, drop2, he]
  rfl
theorem getB_full {mo ra mi co most : Nat} (hmo : mo ≤ 5) (h0 : mo ≠ 0) (h1 : 1 ≤ ra) (hm : ra ≤ most) (hb : most ≤ 16777216) (hmi : mi ≤ 3 * ra + 64) (hco : co ≤ ra - 1) (T : List UInt8) :
    getB (UInt8.ofNat (mo + 1) :: (lput ra ++ (lput mi ++ (lput co ++ T)))) most = if T.length < 4 then ((0, 0, 0, 0, 0), 0, 11) else ((mo, ra, mi, co, sum4 T), 1 + (lput ra).length + (lput mi).length + (lput co).length + 4, 0) := by
  rw [getB_hd hmo, nbR_put (by omega) h1 hm]
  unfold getB2
  rw [if_neg (fun h => h rfl), if_neg (by omega)]
  have hl : (UInt8.ofNat (mo + 1) :: (lput ra ++ (lput mi ++ (lput co ++ T)))).length = 1 + (lput ra).length + (lput mi).length + (lput co).length + T.length := by simp only [List.length_cons, List.length_append]; omega
  simp only [drop1, nbR_put (show mi ≤ 1099511627776 by omega) (Nat.zero_le mi) hmi, drop2, nbR_put (show co ≤ 1099511627776 by omega) (Nat.zero_le co) hco, drop3, hl]
  rw [if_neg (fun h => h rfl), if_neg (fun h => h rfl)]
  by_cases h4 : T.length < 4
  · rw [if_pos h4, if_pos (by omega)]
  · rw [if_neg h4, if_neg (by omega)]
    rfl
theorem blkL_stored {mo ra mi co su : Nat} (h0 : mo = 0) : blkL mo ra mi co su = UInt8.ofNat (0 + 1) :: (lput ra ++ fourL su) := by
  subst h0
  rfl
theorem blkL_coded {mo ra mi co su : Nat} (h0 : mo ≠ 0) : blkL mo ra mi co su = UInt8.ofNat (mo + 1) :: (lput ra ++ (lput mi ++ (lput co ++ fourL su))) := by
  unfold blkL
  rw [if_pos (by omega)]
  simp
/-- What was put is got. -/
theorem getB_put {mo ra mi co su most : Nat} (h : mayBk (mo : Int) (ra : Int) (mi : Int) (co : Int) (most : Int) = true) (hs : su < 4294967296) (hb : most ≤ 16777216) (more : List UInt8) :
    getB (blkL mo ra mi co su ++ more) most = ((mo, ra, mi, co, su), (blkL mo ra mi co su).length, 0) := by
  obtain ⟨hmo, h1, hm, hz, hn⟩ := mayBk_nat h
  by_cases h0 : mo = 0
  · obtain ⟨rfl, rfl⟩ := hz h0
    rw [blkL_stored h0, List.cons_append, List.append_assoc, getB_stored h1 hm hb, if_neg (by simp [fourL]), sum4_four hs, h0]
    simp [fourL]
    omega
  · obtain ⟨hmi, hco⟩ := hn h0
    rw [blkL_coded h0, List.cons_append, List.append_assoc, List.append_assoc, List.append_assoc, getB_full hmo h0 h1 hm hb hmi (by omega), if_neg (by simp [fourL]), sum4_four hs]
    simp [fourL]
    omega
theorem take_lt (P T : List UInt8) {i : Nat} (h : i < P.length) : (P ++ T).take i = P.take i := by
  rw [List.take_append, show i - P.length = 0 by omega, List.take_zero, List.append_nil]
theorem take_ge (P T : List UInt8) {i : Nat} (h : P.length ≤ i) : (P ++ T).take i = P ++ T.take (i - P.length) := by
  rw [List.take_append, List.take_of_length_le h]
/-- Each beginning of it, but all, ends too early. -/
theorem getB_cut {mo ra mi co su most i : Nat} (h : mayBk (mo : Int) (ra : Int) (mi : Int) (co : Int) (most : Int) = true) (hb : most ≤ 16777216) (hi : i < (blkL mo ra mi co su).length) :
    getB ((blkL mo ra mi co su).take i) most = ((0, 0, 0, 0, 0), 0, 11) := by
  obtain ⟨hmo, h1, hm, hz, hn⟩ := mayBk_nat h
  cases i with
  | zero => rfl
  | succ i =>
    by_cases h0 : mo = 0
    · rw [blkL_stored h0] at hi ⊢
      rw [List.length_cons, List.length_append] at hi
      rw [List.take_succ_cons]
      by_cases hr : i < (lput ra).length
      · rw [take_lt _ _ hr, getB_hd (by decide), nbR_cut _ _ (by omega) hr, getB2_bad _ _ _ (by decide)]
      · have h4 : (fourL su).length = 4 := rfl
        rw [take_ge _ _ (by omega), getB_stored h1 hm hb, if_pos (by rw [List.length_take]; omega)]
    · obtain ⟨hmi, hco⟩ := hn h0
      rw [blkL_coded h0] at hi ⊢
      have h4 : (fourL su).length = 4 := rfl
      simp only [List.length_cons, List.length_append] at hi
      rw [List.take_succ_cons]
      by_cases hr : i < (lput ra).length
      · rw [take_lt _ _ hr, getB_hd hmo, nbR_cut _ _ (by omega) hr, getB2_bad _ _ _ (by decide)]
      · rw [take_ge _ _ (by omega)]
        by_cases hr2 : i - (lput ra).length < (lput mi).length
        · rw [take_lt _ _ hr2, getB_mid hmo h0 h1 hm hb _ (nbR_cut _ _ (by omega) hr2)]
        · rw [take_ge _ _ (by omega)]
          by_cases hr3 : i - (lput ra).length - (lput mi).length < (lput co).length
          · rw [take_lt _ _ hr3, getB_coded hmo h0 h1 hm hb hmi _ (nbR_cut _ _ (by omega) hr3)]
          · rw [take_ge _ _ (by omega), getB_full hmo h0 h1 hm hb hmi (by omega), if_pos (by rw [List.length_take]; omega)]
/-- The end, behind its first byte. -/
theorem endG_hd (T : List UInt8) : endG (0 :: T) = if (nbR (lget T) 0 1099511627776).2.2 ≠ 0 then (0, 0, 0, (nbR (lget T) 0 1099511627776).2.2) else if (0 :: T).length < 1 + (nbR (lget T) 0 1099511627776).2.1 + 4 then (0, 0, 0, 11)
    else ((nbR (lget T) 0 1099511627776).1, sum4 ((0 :: T : List UInt8).drop (1 + (nbR (lget T) 0 1099511627776).2.1)), 1 + (nbR (lget T) 0 1099511627776).2.1 + 4, 0) := by
  unfold endG
  rw [if_neg (by simp), if_neg (fun h => h rfl)]
  rfl
theorem endG_full {n : Nat} (hn : n ≤ 1099511627776) (T : List UInt8) : endG (0 :: (lput n ++ T)) = if T.length < 4 then (0, 0, 0, 11) else (n, sum4 T, 1 + (lput n).length + 4, 0) := by
  rw [endG_hd, nbR_put hn (Nat.zero_le n) hn]
  simp only [drop1]
  rw [if_neg (fun h => h rfl)]
  have hl : ((0 : UInt8) :: (lput n ++ T)).length = 1 + (lput n).length + T.length := by rw [List.length_cons, List.length_append]; omega
  rw [hl]
  by_cases h4 : T.length < 4
  · rw [if_pos h4, if_pos (by omega)]
  · rw [if_neg h4, if_neg (by omega)]
theorem endL_eq (n su : Nat) : endL n su = 0 :: (lput n ++ fourL su) := rfl
theorem endG_put {n su : Nat} (hn : n ≤ 1099511627776) (hs : su < 4294967296) (more : List UInt8) : endG (endL n su ++ more) = (n, su, (endL n su).length, 0) := by
  rw [endL_eq, List.cons_append, List.append_assoc, endG_full hn, if_neg (by simp [fourL]), sum4_four hs]
  simp [fourL]
  omega
theorem endG_cut {n su i : Nat} (hn : n ≤ 1099511627776) (hi : i < (endL n su).length) : endG ((endL n su).take i) = (0, 0, 0, 11) := by
  cases i with
  | zero => rfl
  | succ i =>
    rw [endL_eq] at hi ⊢
    have h4 : (fourL su).length = 4 := rfl
    rw [List.length_cons, List.length_append] at hi
    rw [List.take_succ_cons]
    by_cases hr : i < (lput n).length
    · rw [take_lt _ _ hr, endG_hd, nbR_cut _ _ hn hr]
      rfl
    · rw [take_ge _ _ (by omega), endG_full hn, if_pos (by rw [List.length_take]; omega)]
theorem lput_pow : ∀ (k n : Nat), n < 128 ^ (k + 1) → (lput n).length ≤ k + 1
  | 0, n, h => by
    rw [lput_small (by omega)]
    simp
  | k + 1, n, h => by
    by_cases hb : n < 128
    · rw [lput_small hb]
      simp
    · rw [lput_big hb, List.length_cons]
      have := lput_pow k (n / 128) (by rw [Nat.div_lt_iff_lt_mul (by decide), ← Nat.pow_succ]; exact h)
      omega
/-- A block has at most 17 bytes ahead, an end at most 11. -/
theorem blkL_len {mo ra mi co su : Nat} (hr : ra ≤ 16777216) (hm : mi ≤ 3 * ra + 64) (hc : co ≤ ra) : (blkL mo ra mi co su).length ≤ 17 := by
  have h1 := lput_pow 3 ra (by omega)
  have h2 := lput_pow 3 mi (by omega)
  have h3 := lput_pow 3 co (by omega)
  have h4 : (fourL su).length = 4 := rfl
  by_cases h0 : mo = 0
  · rw [blkL_stored h0, List.length_cons, List.length_append]
    omega
  · rw [blkL_coded h0]
    simp only [List.length_cons, List.length_append]
    omega
theorem endL_len {n su : Nat} (hn : n ≤ 1099511627776) : (endL n su).length ≤ 11 := by
  have h1 := lput_pow 5 n (by omega)
  have h4 : (fourL su).length = 4 := rfl
  rw [endL_eq, List.length_cons, List.length_append]
  omega
/-- A stored block's bytes: at most 9 (P31.4). -/
theorem blkL_len0 {ra mi co su : Nat} (hr : ra ≤ 16777216) : (blkL 0 ra mi co su).length ≤ 9 := by
  have h1 := lput_pow 3 ra (by omega)
  have h4 : (fourL su).length = 4 := rfl
  rw [blkL_stored rfl, List.length_cons, List.length_append]
  omega
end Go.Proofs.Ytcjjlkfenlmmlaa
