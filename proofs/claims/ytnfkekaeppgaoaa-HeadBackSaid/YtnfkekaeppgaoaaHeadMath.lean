/- Layer 29: what Get tells, the program's way and the reference's; what was put is got. Plain. -/
import Derived.Test.YtnfkekaeppgaoaaHeadRGet
namespace Go.Proofs.Ytnfkekaeppgaoaa

theorem seven_of {l : List UInt8} (h : 7 ≤ l.length) : ∃ a b c d x y z t, l = a :: b :: c :: d :: x :: y :: z :: t := by
  match l, h with
  | a :: b :: c :: d :: x :: y :: z :: t, _ => exact ⟨a, b, c, d, x, y, z, t, rfl⟩
theorem ofNat_toNat8 (c : UInt8) : UInt8.ofNat c.toNat = c := UInt8.toNat.inj (by rw [UInt8.toNat_ofNat']; have := c.toNat_lt; omega)
/-- What stands ahead of the sum. -/
theorem head_take {l : List UInt8} {m j : Nat} (hb : begB l = true) (h7 : 7 ≤ l.length) (hj : (l.drop 7).take j = lput m) : l.take (7 + j) = headL m (l.getD 4 0).toNat (l.getD 5 0).toNat (l.getD 6 0).toNat := by
  obtain ⟨a, b, c, d, x, y, z, t, rfl⟩ := seven_of h7
  unfold begB at hb
  rw [Nat.min_eq_right (by simp)] at hb
  have hb' : [a, b, c, d] = [87, 80, 82, 49] := eq_of_beq hb
  injection hb' with e1 hb'
  injection hb' with e2 hb'
  injection hb' with e3 hb'
  injection hb' with e4 hb'
  have hj' : t.take j = lput m := hj
  rw [show 7 + j = j + 7 by omega]
  unfold headL
  rw [← hj', e1, e2, e3, e4]
  show 87 :: 80 :: 82 :: 49 :: x :: y :: z :: t.take j = [87, 80, 82, 49, UInt8.ofNat x.toNat, UInt8.ofNat y.toNat, UInt8.ofNat z.toNat] ++ t.take j
  rw [ofNat_toNat8, ofNat_toNat8, ofNat_toNat8]
  rfl
theorem beq_app {a x y : List UInt8} : (a ++ x == a ++ y) = (x == y) := by
  by_cases h : x = y
  · rw [h]; simp
  · have h2 : a ++ x ≠ a ++ y := fun e => h (List.append_cancel_left e)
    rw [beq_eq_false_iff_ne.2 h, beq_eq_false_iff_ne.2 h2]
/-- The program's Get and the reference's tell the same. -/
theorem get_same {l : List UInt8} {m j e : Nat} (hg : lget (l.drop 7) = (m, j, e)) : getP l m j e = getF l m j e := by
  unfold getP getF
  cases hb : begB l with
  | false => rfl
  | true =>
    rw [if_neg (show ¬ true = false by decide), if_neg (show ¬ true = false by decide)]
    by_cases h7 : l.length < 7
    · rw [List.drop_eq_nil_of_le (by omega)] at hg
      have : (0, 0, 11) = (m, j, e) := hg
      simp only [Prod.mk.injEq] at this
      obtain ⟨rfl, rfl, rfl⟩ := this
      rw [if_pos rfl, if_pos h7]
    · rw [if_neg h7]
      rcases lget_told (l.drop 7) with ⟨q, h1, h2, h3, h4⟩ | h1 | h1
      · rw [hg] at h1
        simp only [Prod.mk.injEq] at h1
        obtain ⟨rfl, rfl, rfl⟩ := h1
        rw [if_neg (show ¬ (0 : Nat) = 11 by decide), if_neg (show ¬ (0 : Nat) = 21 by decide)]
        by_cases hsz : l.length < 7 + (lput m).length + 4
        · rw [if_pos ⟨rfl, hsz⟩, if_pos (.inr hsz)]
        · rw [if_neg (fun h => hsz h.2), if_neg (show ¬ (0 : Nat) ≠ 0 by decide), if_neg (show ¬ ((0 : Nat) ≠ 0 ∨ l.length < 7 + (lput m).length + 4) from fun h => h.elim (fun h => h rfl) hsz)]
          have hH := head_take hb (by omega) h4
          by_cases hm : 16777216 < m
          · have hmay : mayO ((min m 16777217 : Nat) : Int) ((l.getD 4 0).toNat : Int) ((l.getD 5 0).toNat : Int) ((l.getD 6 0).toNat : Int) = false := by
              have : ((min m 16777217 : Nat) : Int) = 16777217 := by omega
              rw [this]
              unfold mayO
              simp
            rw [if_pos hm, if_pos hmay]
            split <;> rfl
          · rw [if_neg hm]
            have hmin : min m 16777217 = m := by omega
            rw [hmin]
            have heq : (l.take (7 + (lput m).length + 4) == headS m (l.getD 4 0).toNat (l.getD 5 0).toNat (l.getD 6 0).toNat) = (fourL (crcOf (l.take (7 + (lput m).length))).toNat == (l.drop (7 + (lput m).length)).take 4) := by
              rw [List.take_add, hH]
              unfold headS
              rw [beq_app]
              exact Bool.beq_comm ..
            rw [heq]
            cases hmay : mayO (m : Int) ((l.getD 4 0).toNat : Int) ((l.getD 5 0).toNat : Int) ((l.getD 6 0).toNat : Int) with
            | false =>
              rw [if_pos rfl, if_pos rfl]
              split <;> rfl
            | true =>
              rw [if_neg (show ¬ true = false by decide), if_neg (show ¬ true = false by decide)]
      · rw [hg] at h1
        simp only [Prod.mk.injEq] at h1
        obtain ⟨rfl, rfl, rfl⟩ := h1
        rw [if_pos rfl, if_neg (show ¬ (11 : Nat) = 21 by decide), if_pos (show (11 : Nat) ≠ 0 ∨ l.length < 7 + 0 + 4 from .inl (by decide))]
      · rw [hg] at h1
        simp only [Prod.mk.injEq] at h1
        obtain ⟨rfl, rfl, rfl⟩ := h1
        rw [if_neg (show ¬ (21 : Nat) = 11 by decide), if_neg (show ¬ ((21 : Nat) = 0 ∧ l.length < 7 + 0 + 4) by rintro ⟨h, -⟩; omega), if_pos (show (21 : Nat) ≠ 0 by decide), if_pos rfl]
theorem headL_len (b u r m : Nat) : (headL b u r m).length = 7 + (lput b).length := by unfold headL; rw [List.length_append]; rfl
theorem headS_len (b u r m : Nat) : (headS b u r m).length = 7 + (lput b).length + 4 := by unfold headS; rw [List.length_append, headL_len]; rfl
theorem headS_drop (b u r m : Nat) (more : List UInt8) : (headS b u r m ++ more).drop 7 = lput b ++ (fourL (crcOf (headL b u r m)).toNat ++ more) := by
  unfold headS
  rw [show headL b u r m = [87, 80, 82, 49, UInt8.ofNat u, UInt8.ofNat r, UInt8.ofNat m] ++ lput b from rfl]
  simp
/-- What was put is got, whatever is behind. -/
theorem get_put {b u r m : Nat} (hb : b ≤ 16777216) (hu : u ≤ 8) (hr : r ≤ 10) (hm : m ≤ 6) (hmay : mayO (b : Int) (u : Int) (r : Int) (m : Int) = true) (more : List UInt8) :
    lget ((headS b u r m ++ more).drop 7) = (b, (lput b).length, 0) ∧ getP (headS b u r m ++ more) b (lput b).length 0 = ([(b : Int), (u : Int), (r : Int), (m : Int)], (headS b u r m).length, 0) := by
  have hlg : lget ((headS b u r m ++ more).drop 7) = (b, (lput b).length, 0) := by
    rw [headS_drop]
    exact lget_put b _ (by omega)
  refine ⟨hlg, ?_⟩
  have e4 : (headS b u r m ++ more).getD 4 0 = UInt8.ofNat u := rfl
  have e5 : (headS b u r m ++ more).getD 5 0 = UInt8.ofNat r := rfl
  have e6 : (headS b u r m ++ more).getD 6 0 = UInt8.ofNat m := rfl
  have u4 : (UInt8.ofNat u).toNat = u := by rw [UInt8.toNat_ofNat']; omega
  have u5 : (UInt8.ofNat r).toNat = r := by rw [UInt8.toNat_ofNat']; omega
  have u6 : (UInt8.ofNat m).toNat = m := by rw [UInt8.toNat_ofNat']; omega
  have hbeg : begB (headS b u r m ++ more) = true := by
    refine begB_yes fun i h4 _ => ?_
    rcases (show i = 0 ∨ i = 1 ∨ i = 2 ∨ i = 3 by omega) with rfl | rfl | rfl | rfl <;> rfl
  have ht : (headS b u r m ++ more).take (7 + (lput b).length) = headL b u r m := by
    unfold headS
    rw [List.append_assoc, ← headL_len b u r m, List.take_left]
  have hd : ((headS b u r m ++ more).drop (7 + (lput b).length)).take 4 = fourL (crcOf (headL b u r m)).toNat := by
    unfold headS
    rw [List.append_assoc, ← headL_len b u r m, List.drop_left]
    rfl
  unfold getP
  rw [hbeg, if_neg (show ¬ true = false by decide), if_neg (show ¬ (0 : Nat) = 11 by decide), if_neg (show ¬ ((0 : Nat) = 0 ∧ (headS b u r m ++ more).length < 7 + (lput b).length + 4) by rw [List.length_append, headS_len]; omega), if_neg (show ¬ (0 : Nat) ≠ 0 by decide), ht, hd, e4, e5, e6, u4, u5, u6, show min b 16777217 = b by omega, hmay, headS_len]
  rw [beq_self_eq_true, if_neg (show ¬ true = false by decide), if_neg (show ¬ true = false by decide)]
/-- Each beginning of it, but all, ends too early. -/
theorem get_cut {b u r m : Nat} (hb : b ≤ 16777216) {i : Nat} (hi : i < (headS b u r m).length) :
    ∃ m' j' e', lget (((headS b u r m).take i).drop 7) = (m', j', e') ∧ getP ((headS b u r m).take i) m' j' e' = ([0, 0, 0, 0], 0, 11) := by
  have hS := headS_len b u r m
  have hlen : ((headS b u r m).take i).length = i := by rw [List.length_take]; omega
  have hbeg : begB ((headS b u r m).take i) = true := by
    refine begB_yes fun k h4 hk => ?_
    rw [List.getD_eq_getElem?_getD, List.getElem?_take_of_lt (by omega)]
    rcases (show k = 0 ∨ k = 1 ∨ k = 2 ∨ k = 3 by omega) with rfl | rfl | rfl | rfl <;> rfl
  have hdr : ((headS b u r m).take i).drop 7 = (lput b ++ fourL (crcOf (headL b u r m)).toNat).take (i - 7) := by
    rw [List.drop_take]
    have := headS_drop b u r m []
    rw [List.append_nil, List.append_nil] at this
    rw [this]
  have h11 : ∀ {m' j'}, getP ((headS b u r m).take i) m' j' 11 = ([0, 0, 0, 0], 0, 11) := fun {m' j'} => by
    unfold getP
    rw [hbeg, if_neg (show ¬ true = false by decide), if_pos rfl]
  by_cases h1 : i - 7 < (lput b).length
  · refine ⟨0, 0, 11, ?_, h11⟩
    rw [hdr, List.take_append_of_le_length (by omega)]
    exact lget_cut b (i - 7) (by omega) h1
  · refine ⟨b, (lput b).length, 0, ?_, ?_⟩
    · rw [hdr, List.take_append, List.take_of_length_le (l := lput b) (by omega)]
      exact lget_put b _ (by omega)
    · unfold getP
      rw [hbeg, if_neg (show ¬ true = false by decide), if_neg (show ¬ (0 : Nat) = 11 by decide), if_pos (show (0 : Nat) = 0 ∧ ((headS b u r m).take i).length < 7 + (lput b).length + 4 from ⟨rfl, by rw [hlen]; omega⟩)]
end Go.Proofs.Ytnfkekaeppgaoaa
