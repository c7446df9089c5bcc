/-
  Layer 32: what bytes tell as a stream. Pure. · Layer 30: the program: Get. · Layer 30: the program: GetEnd. · Layer 32: the program: blockAt, end, blocks.
-/
import Derived.Test.YtjignfnkcbklkaaQ08
import Derived.Test.YtjignfnkcbklkaaQ10
import Derived.Test.YtjignfnkcbklkaaQ11
namespace Go.Proofs.Ytjignfnkcbklkaa

/-- What Get of a block may tell. -/
theorem getB_told (l : List UInt8) (b : Nat) : (∃ mo ra mi co su k, getB l b = ((mo, ra, mi, co, su), k, 0) ∧ mo ≤ 5 ∧ 1 ≤ ra ∧ ra ≤ b ∧ mi ≤ 3 * ra + 64 ∧ co ≤ ra ∧ su < 4294967296 ∧ 1 ≤ k ∧ k ≤ l.length ∧ mayBk (mo : Int) (ra : Int) (mi : Int) (co : Int) (b : Int) = true) ∨
    (∃ e, getB l b = ((0, 0, 0, 0, 0), 0, e) ∧ (e = 11 ∨ e = 15 ∨ (e = 14 ∧ 1 ≤ l.length ∧ ((l.getD 0 0).toNat = 0 ∨ 6 < (l.getD 0 0).toNat)))) := by
  unfold getB
  by_cases h0 : l.length = 0
  · rw [if_pos h0]
    exact .inr ⟨11, rfl, .inl rfl⟩
  rw [if_neg h0]
  by_cases h1 : (l.getD 0 0).toNat = 0 ∨ 6 < (l.getD 0 0).toNat
  · rw [if_pos h1]
    exact .inr ⟨14, rfl, .inr (.inr ⟨rfl, by omega, h1⟩)⟩
  rw [if_neg h1]
  obtain ⟨x, hx⟩ : ∃ x, x = (l.getD 0 0).toNat := ⟨_, rfl⟩
  rw [← hx] at h1 ⊢
  unfold getB2
  rcases nbR_told (l.drop 1) 1 b with ⟨v, h, -, hv1, hvb, hkl, hk0⟩ | h | h
  · rw [h]
    simp only
    rw [if_neg (fun h => h rfl)]
    rw [List.length_drop] at hkl
    by_cases hx1 : x = 1
    · rw [if_pos hx1]
      by_cases h4 : l.length < 1 + (lput v).length + 4
      · rw [if_pos h4]
        exact .inr ⟨11, rfl, .inl rfl⟩
      · rw [if_neg h4]
        refine .inl ⟨0, v, 0, v, _, _, rfl, by omega, hv1, hvb, by omega, Nat.le_refl _, sum4_lt _, by omega, by omega, ?_⟩
        unfold mayBk
        simp
        omega
    · rw [if_neg hx1]
      rcases nbR_told (l.drop (1 + (lput v).length)) 0 (3 * v + 64) with ⟨m, h2, -, -, hm, hjl, -⟩ | h2 | h2
      · rw [h2]
        simp only
        rw [if_neg (fun h => h rfl)]
        rcases nbR_told (l.drop (1 + (lput v).length + (lput m).length)) 0 (v - 1) with ⟨d, h3, -, -, hd, hil, -⟩ | h3 | h3
        · rw [h3]
          simp only
          rw [if_neg (fun h => h rfl)]
          split
          · exact .inr ⟨11, rfl, .inl rfl⟩
          · rename_i h4
            refine .inl ⟨x - 1, v, m, d, _, _, rfl, by omega, hv1, hvb, hm, by omega, sum4_lt _, by omega, by omega, ?_⟩
            have hx2 : ((x - 1 : Nat) : Int) ≠ 0 := by omega
            unfold mayBk
            rw [if_neg hx2]
            simp
            omega
        · rw [h3]
          exact .inr ⟨11, rfl, .inl rfl⟩
        · rw [h3]
          exact .inr ⟨15, rfl, .inr (.inl rfl)⟩
      · rw [h2]
        exact .inr ⟨11, rfl, .inl rfl⟩
      · rw [h2]
        exact .inr ⟨15, rfl, .inr (.inl rfl)⟩
  · rw [h]
    exact .inr ⟨11, rfl, .inl rfl⟩
  · rw [h]
    exact .inr ⟨15, rfl, .inr (.inl rfl)⟩

/-- A block's five numbers. -/
abbrev Five := Nat × Nat × Nat × Nat × Nat
def noFive : Five := (0, 0, 0, 0, 0)
/-- The block at a place, where its payload begins, and the error. -/
def blkAt (l : List UInt8) (b p : Nat) : Five × Nat × Nat :=
  if (getB (l.drop p) b).2.2 ≠ 0 then (noFive, 0, (getB (l.drop p) b).2.2)
  else if l.length - (p + (getB (l.drop p) b).2.1) < (getB (l.drop p) b).1.2.2.2.1 then (noFive, 0, 11)
  else ((getB (l.drop p) b).1, p + (getB (l.drop p) b).2.1, 0)
structure BlkOk (l : List UInt8) (b p : Nat) (q : Five) (fr : Nat) : Prop where
  mo : q.1 ≤ 5
  ra1 : 1 ≤ q.2.1
  ra : q.2.1 ≤ 16777216
  mi : q.2.2.1 ≤ 100000000
  co : q.2.2.2.1 ≤ 16777216
  su : q.2.2.2.2 < 4294967296
  lt : p < fr
  le : fr + q.2.2.2.1 ≤ l.length
theorem blkAt_told (l : List UInt8) {b p : Nat} (hb : b ≤ 16777216) (hp : p ≤ l.length) : (∃ q fr, blkAt l b p = (q, fr, 0) ∧ BlkOk l b p q fr) ∨ (∃ e, blkAt l b p = (noFive, 0, e) ∧ (e = 11 ∨ e = 15 ∨ (e = 14 ∧ p < l.length ∧ ((l.getD p 0).toNat = 0 ∨ 6 < (l.getD p 0).toNat)))) := by
  unfold blkAt
  rcases getB_told (l.drop p) b with ⟨mo, ra, mi, co, su, k, h, h1, h2, h3, h4, h5, h6, h7, h8, -⟩ | ⟨e, h, he⟩
  · rw [h]
    simp only
    rw [if_neg (fun h => h rfl)]
    rw [List.length_drop] at h8
    by_cases hc : l.length - (p + k) < co
    · rw [if_pos hc]
      exact .inr ⟨11, rfl, .inl rfl⟩
    · rw [if_neg hc]
      exact .inl ⟨_, _, rfl, ⟨h1, h2, by show ra ≤ _; omega, by show mi ≤ _; omega, by show co ≤ _; omega, h6, by omega, by show p + k + co ≤ _; omega⟩⟩
  · rw [h]
    simp only
    have he0 : e ≠ 0 := by omega
    rw [if_pos he0]
    refine .inr ⟨e, rfl, ?_⟩
    rcases he with h1 | h1 | ⟨h1, h2, h3⟩
    · exact .inl h1
    · exact .inr (.inl h1)
    · have hd : (l.drop p).getD 0 0 = l.getD p 0 := by
        rw [List.getD_eq_getElem?_getD, List.getElem?_drop, Nat.add_zero, ← List.getD_eq_getElem?_getD]
      rw [hd] at h3
      rw [List.length_drop] at h2
      exact .inr (.inr ⟨h1, by omega, h3⟩)
/-- A block, where its payload begins, and where its bytes begin. -/
abbrev Blk7 := Five × Nat × Nat
/-- What the blocks from a place on come to: the blocks, their bytes in all, the place behind, and the error that ends them. -/
def parL (l : List UInt8) (b : Nat) : Nat → Nat → Nat → List Blk7 → List Blk7 × Nat × Nat × Nat
  | 0, p, t, acc => (acc, t, p, 11)
  | k + 1, p, t, acc => if (blkAt l b p).2.2 = 0 then parL l b k ((blkAt l b p).2.1 + (blkAt l b p).1.2.2.2.1) (t + (blkAt l b p).1.2.1) (acc ++ [((blkAt l b p).1, (blkAt l b p).2.1, t)]) else (acc, t, p, (blkAt l b p).2.2)
theorem parL_step {l : List UInt8} {b k p t fr : Nat} {q : Five} {acc : List Blk7} (h : blkAt l b p = (q, fr, 0)) : parL l b (k + 1) p t acc = parL l b k (fr + q.2.2.2.1) (t + q.2.1) (acc ++ [(q, fr, t)]) := by
  rw [show parL l b (k + 1) p t acc = if (blkAt l b p).2.2 = 0 then parL l b k ((blkAt l b p).2.1 + (blkAt l b p).1.2.2.2.1) (t + (blkAt l b p).1.2.1) (acc ++ [((blkAt l b p).1, (blkAt l b p).2.1, t)]) else (acc, t, p, (blkAt l b p).2.2) from rfl, h]
  rfl
theorem parL_end {l : List UInt8} {b k p t e : Nat} {acc : List Blk7} (h : blkAt l b p = (noFive, 0, e)) (he : e ≠ 0) : parL l b (k + 1) p t acc = (acc, t, p, e) := by
  rw [show parL l b (k + 1) p t acc = if (blkAt l b p).2.2 = 0 then parL l b k ((blkAt l b p).2.1 + (blkAt l b p).1.2.2.2.1) (t + (blkAt l b p).1.2.1) (acc ++ [((blkAt l b p).1, (blkAt l b p).2.1, t)]) else (acc, t, p, (blkAt l b p).2.2) from rfl, h, if_neg he]
/-- What the iterator hands on, from a place on. -/
abbrev ItemF := Five × Nat × Nat × Nat
def itemsF (l : List UInt8) (b : Nat) : Nat → Nat → Nat → List ItemF
  | 0, _, _ => []
  | k + 1, p, t => ((blkAt l b p).1, (blkAt l b p).2.1, t, (blkAt l b p).2.2) :: (if (blkAt l b p).2.2 = 0 then itemsF l b k ((blkAt l b p).2.1 + (blkAt l b p).1.2.2.2.1) (t + (blkAt l b p).1.2.1) else [])
/-- The sum, and the error, of an end of so many bytes in all. -/
def endE (l : List UInt8) (t : Nat) : Nat × Nat :=
  if (endG l).2.2.2 ≠ 0 then (0, (endG l).2.2.2) else if (endG l).1 ≠ t then (0, 15) else if (endG l).2.2.1 < l.length then (0, 19) else ((endG l).2.1, 0)
abbrev StreamR := List Int × List Blk7 × Nat × Nat × Nat
def noStream (e : Nat) : StreamR := ([0, 0, 0, 0], [], 0, 0, e)
/-- What the whole is: options, blocks, bytes in all, sum, error. -/
def endR (l : List UInt8) (o : List Int) (r : List Blk7 × Nat × Nat × Nat) : StreamR :=
  if r.2.2.2 ≠ 14 then noStream r.2.2.2
  else if (endE (l.drop r.2.2.1) r.2.1).2 ≠ 0 then noStream (endE (l.drop r.2.2.1) r.2.1).2
  else (o, r.1, r.2.1, (endE (l.drop r.2.2.1) r.2.1).1, 0)
/-- What GetEnd may tell. -/
theorem endG_told (l : List UInt8) : (∃ t s k, endG l = (t, s, k, 0) ∧ t ≤ 1099511627776 ∧ s < 4294967296 ∧ k ≤ l.length ∧ 1 ≤ l.length ∧ (l.getD 0 0).toNat = 0) ∨ (∃ e, endG l = (0, 0, 0, e) ∧ (e = 11 ∨ e = 15 ∨ (e = 14 ∧ 1 ≤ l.length ∧ (l.getD 0 0).toNat ≠ 0))) := by
  unfold endG
  by_cases h0 : l.length = 0
  · rw [if_pos h0]
    exact .inr ⟨11, rfl, .inl rfl⟩
  rw [if_neg h0]
  by_cases h1 : (l.getD 0 0).toNat ≠ 0
  · rw [if_pos h1]
    exact .inr ⟨14, rfl, .inr (.inr ⟨rfl, by omega, h1⟩)⟩
  rw [if_neg h1]
  rcases nbR_told (l.drop 1) 0 1099511627776 with ⟨v, h, hv, -, -, hkl, -⟩ | h | h
  · rw [h]
    simp only
    rw [if_neg (fun h => h rfl)]
    split
    · exact .inr ⟨11, rfl, .inl rfl⟩
    · exact .inl ⟨_, _, _, rfl, hv, sum4_lt _, by omega, by omega, by omega⟩
  · rw [h]
    exact .inr ⟨11, rfl, .inl rfl⟩
  · rw [h]
    exact .inr ⟨15, rfl, .inr (.inl rfl)⟩
/-- What Parse tells, out of what head's Get tells. -/
def parseR (l : List UInt8) (h : List Int × Nat × Nat) : StreamR :=
  if h.2.2 ≠ 0 then noStream h.2.2 else endR l h.1 (parL l (h.1.getD 0 0).toNat (l.length + 1) h.2.1 0 [])
/-- What head's Get may tell. -/
theorem getP_told (l : List UInt8) (m j e : Nat) : (∃ b u r md k : Nat, getP l m j e = ([(b : Int), (u : Int), (r : Int), (md : Int)], k, 0) ∧ b ≤ 16777216 ∧ u ≤ 255 ∧ r ≤ 255 ∧ md ≤ 255 ∧ k ≤ l.length ∧ mayO (b : Int) (u : Int) (r : Int) (md : Int) = true) ∨ (∃ e', getP l m j e = ([0, 0, 0, 0], 0, e') ∧ e' ≠ 0 ∧ e' ≤ 13) := by
  unfold getP
  split
  · exact .inr ⟨12, rfl, by decide, by decide⟩
  split
  · exact .inr ⟨11, rfl, by decide, by decide⟩
  split
  · exact .inr ⟨11, rfl, by decide, by decide⟩
  split
  · exact .inr ⟨13, rfl, by decide, by decide⟩
  split
  · exact .inr ⟨13, rfl, by decide, by decide⟩
  split
  · exact .inr ⟨13, rfl, by decide, by decide⟩
  · rename_i h1 h2 h3 h4
    have hm := h4
    rw [Bool.not_eq_false] at hm
    have hb : min m 16777217 ≤ 16777216 := by
      unfold mayO at hm
      simp at hm
      omega
    have c4 := (l.getD 4 0).toNat_lt
    have c5 := (l.getD 5 0).toNat_lt
    have c6 := (l.getD 6 0).toNat_lt
    exact .inl ⟨_, _, _, _, _, rfl, hb, by omega, by omega, by omega, by omega, hm⟩
end Go.Proofs.Ytjignfnkcbklkaa
namespace Go.Proofs.Ytjignfnkcbklkaa
open Go.RowKit Go.Sort

theorem Blk.drew1 {w : World} {g : Nat} {t : TypeId} {cs : List Value} (h : Blk w g t cs) : Blk w.drew g t cs := h
/-- What numbers tell of bytes behind a tag, and what Get tells with it. -/
def NumSays (l : List UInt8) (b mo n e ra mi co at_ : Nat) : Prop :=
  getB l b = (if e ≠ 0 then ((0, 0, 0, 0, 0), 0, e) else if n < at_ + 4 then ((0, 0, 0, 0, 0), 0, 11) else ((mo, ra, mi, co, sum4 (l.drop at_)), at_ + 4, 0)) ∧ at_ ≤ n
set_option maxHeartbeats 1000000 in
theorem numLd_any {n c b mo : Nat} {A : Option Addr} {l : List UInt8} {wd rc md : Int} (hn : l.length = n) (hnc : n ≤ c) (hn1 : n ≤ 1000000) (h1n : 1 ≤ n) (hb : b ≤ 16777216) (hx : (l.getD 0 0).toNat = mo + 1) (hmo : mo ≤ 5) :
    ∃ e ra mi co at_ : Nat, NumSays l b mo n e ra mi co at_ ∧ ∀ (W : World) (T G H P B : Nat), Blk W T 37 [.int .i64 (mo : Int), .int .i64 0, .int .i64 0, .int .i64 0, .int .u32 0, .int .i64 0, .int .i64 0] → LaidAt W G H P A n c 1 → Rd W B A (bvs l) → B ≤ T → B ≤ P → T ≠ P →
      Calls Try.prog 27 #[.pointer (some ⟨T, 0, none⟩), .agg #[.int .i64 (b : Int), .int .i64 wd, .int .i64 rc, .int .i64 md], .func (.func 58) #[] #[.pointer (some ⟨G, 0, none⟩), .pointer (some ⟨H, 0, none⟩)]] W fun e' w' => e' = .returned (.int .i64 (e : Int)) ∧
        (e = 0 → Blk w' T 37 [.int .i64 (mo : Int), .int .i64 (ra : Int), .int .i64 (mi : Int), .int .i64 (co : Int), .int .u32 0, .int .i64 0, .int .i64 0] ∧ Blk w' P 3 [.int .i64 (at_ : Int)]) ∧ OnlyS [T, P] W w' := by
  have hg : getB l b = getB2 l (mo + 1) (nbR (lget (l.drop 1)) 1 b) := by
    unfold getB
    rw [if_neg (by omega), if_neg (by omega), hx]
  unfold NumSays
  rw [hg]
  unfold getB2
  rw [hn]
  have hd1 : (l.drop 1).length = n - 1 := by rw [List.length_drop, hn]
  rcases nbR_told (l.drop 1) 1 b with ⟨v, h, hv40, hv1, hvb, hkl, -⟩ | h | h
  · obtain ⟨k, hk⟩ : ∃ k, k = (lput v).length := ⟨_, rfl⟩
    rw [← hk] at h hkl
    have hkn : 1 + k ≤ n := by omega
    by_cases h0 : mo = 0
    · subst h0
      exact ⟨0, v, 0, v, 1 + k, ⟨by rw [h]; rfl, hkn⟩, fun W T G H P B hT hla hr hBT hBP hTP => (numLd_stored hT hla hr hBT hBP hn hnc hn1 h1n hTP hb h).mono fun _ _ ⟨q1, q2, q3, q4⟩ => ⟨q1, fun _ => ⟨q2, q3⟩, q4⟩⟩
    · have hm1 : (mo + 1 = 1) = False := by simp [h0]
      have hcd := fun (R : List Value × Nat × Nat) (hR : takeN l [(2, 0, 3 * v + 64), (3, 0, v - 1)] (1 + k) [.int .i64 (mo : Int), .int .i64 (v : Int), .int .i64 0, .int .i64 0, .int .u32 0, .int .i64 0, .int .i64 0] = R) (W : World) (T G H P B : Nat) hT hla hr hBT hBP hTP => numLd_coded (wd := wd) (rc := rc) (md := md) (T := T) (G := G) (H := H) (P := P) (B := B) (W := W) (c := c) (A := A) hT hla hr hBT hBP hn hnc hn1 h1n hTP hb h hv1 hvb hkn h0 R hR
      have hd2 : (l.drop (1 + k)).length = n - (1 + k) := by rw [List.length_drop, hn]
      rcases nbR_told (l.drop (1 + k)) 0 (3 * v + 64) with ⟨m, h2, -, -, -, hjl, -⟩ | h2 | h2
      · obtain ⟨j, hj⟩ : ∃ j, j = (lput m).length := ⟨_, rfl⟩
        rw [← hj] at h2 hjl
        have hd3 : (l.drop (1 + k + j)).length = n - (1 + k + j) := by rw [List.length_drop, hn]
        rcases nbR_told (l.drop (1 + k + j)) 0 (v - 1) with ⟨d, h3, -, -, -, hil, -⟩ | h3 | h3
        · obtain ⟨i, hi⟩ : ∃ i, i = (lput d).length := ⟨_, rfl⟩
          rw [← hi] at h3 hil
          have hcd' := hcd ([.int .i64 (mo : Int), .int .i64 (v : Int), .int .i64 (m : Int), .int .i64 (d : Int), .int .u32 0, .int .i64 0, .int .i64 0], 1 + k + j + i, 0) (by simp only [takeN, h2, h3, if_true]; rfl)
          exact ⟨0, v, m, d, 1 + k + j + i, ⟨by simp only [h, hm1, h2, h3, if_false]; rfl, by omega⟩, fun W T G H P B hT hla hr hBT hBP hTP => (hcd' W T G H P B hT hla hr hBT hBP hTP).mono fun _ _ ⟨q1, q2, q3, q4⟩ => ⟨q1, fun _ => ⟨q2, q3⟩, q4⟩⟩
        · have hcd' := hcd ([.int .i64 (mo : Int), .int .i64 (v : Int), .int .i64 (m : Int), .int .i64 0, .int .u32 0, .int .i64 0, .int .i64 0], 1 + k + j, 11) (by simp only [takeN, h2, h3, if_true]; rfl)
          exact ⟨11, 0, 0, 0, 0, ⟨by simp only [h, hm1, h2, h3, if_false]; rfl, by omega⟩, fun W T G H P B hT hla hr hBT hBP hTP => (hcd' W T G H P B hT hla hr hBT hBP hTP).mono fun _ _ ⟨q1, _, _, q4⟩ => ⟨q1, fun h => absurd h (by decide), q4⟩⟩
        · have hcd' := hcd ([.int .i64 (mo : Int), .int .i64 (v : Int), .int .i64 (m : Int), .int .i64 0, .int .u32 0, .int .i64 0, .int .i64 0], 1 + k + j, 15) (by simp only [takeN, h2, h3, if_true]; rfl)
          exact ⟨15, 0, 0, 0, 0, ⟨by simp only [h, hm1, h2, h3, if_false]; rfl, by omega⟩, fun W T G H P B hT hla hr hBT hBP hTP => (hcd' W T G H P B hT hla hr hBT hBP hTP).mono fun _ _ ⟨q1, _, _, q4⟩ => ⟨q1, fun h => absurd h (by decide), q4⟩⟩
      · have hcd' := hcd ([.int .i64 (mo : Int), .int .i64 (v : Int), .int .i64 0, .int .i64 0, .int .u32 0, .int .i64 0, .int .i64 0], 1 + k, 11) (by simp only [takeN, h2]; rfl)
        exact ⟨11, 0, 0, 0, 0, ⟨by simp only [h, hm1, h2, if_false]; rfl, by omega⟩, fun W T G H P B hT hla hr hBT hBP hTP => (hcd' W T G H P B hT hla hr hBT hBP hTP).mono fun _ _ ⟨q1, _, _, q4⟩ => ⟨q1, fun h => absurd h (by decide), q4⟩⟩
      · have hcd' := hcd ([.int .i64 (mo : Int), .int .i64 (v : Int), .int .i64 0, .int .i64 0, .int .u32 0, .int .i64 0, .int .i64 0], 1 + k, 15) (by simp only [takeN, h2]; rfl)
        exact ⟨15, 0, 0, 0, 0, ⟨by simp only [h, hm1, h2, if_false]; rfl, by omega⟩, fun W T G H P B hT hla hr hBT hBP hTP => (hcd' W T G H P B hT hla hr hBT hBP hTP).mono fun _ _ ⟨q1, _, _, q4⟩ => ⟨q1, fun h => absurd h (by decide), q4⟩⟩
  · exact ⟨11, 0, 0, 0, 0, ⟨by rw [h]; rfl, by omega⟩, fun W T G H P B hT hla hr hBT hBP hTP => (numLd_err (e := 11) hT hla hr hBT hBP hn hnc hn1 h1n hTP hb (by rw [h]) (by decide)).mono fun _ _ ⟨q1, q4⟩ => ⟨q1, fun h => absurd h (by decide), q4⟩⟩
  · exact ⟨15, 0, 0, 0, 0, ⟨by rw [h]; rfl, by omega⟩, fun W T G H P B hT hla hr hBT hBP hTP => (numLd_err (e := 15) hT hla hr hBT hBP hn hnc hn1 h1n hTP hb (by rw [h]) (by decide)).mono fun _ _ ⟨q1, q4⟩ => ⟨q1, fun h => absurd h (by decide), q4⟩⟩
set_option maxHeartbeats 1000000 in
set_option maxRecDepth 100000 in
theorem blkLaidFrom_any (A : Option Addr) (n c P : Nat) (W : World) : Calls Try.prog 51 #[.slice A n c, .pointer (some ⟨P, 0, none⟩)] W fun e w' => ∃ G H, e = .returned (.func (.func 58) #[] #[.pointer (some ⟨G, 0, none⟩), .pointer (some ⟨H, 0, none⟩)]) ∧ Blk w' G 29 [.slice A n c] ∧ Blk w' H 85 [.pointer (some ⟨P, 0, none⟩)] ∧ W.heap.size ≤ G ∧ W.heap.size ≤ H ∧ Below W.heap.size W w' := by
  go_enter Try.func51, Try.ntmps51
  have hmf : ∀ (fn : Fn) (first cap : Array Value) (w : World), (Instr.makeFunc fn first cap).run Try.prog w = .ok (.func fn first cap) w := fun _ _ _ _ => rfl
  go_wp2
  go_ret
  exact ⟨_, _, rfl, (blk_new W _ _ rfl).grow ((Below.refl _ _).alloc (Nat.le_refl _) _), blk_new _ _ _ (by simp), by omega, by omega, ((Below.refl _ _).alloc (Nat.le_refl _) _).alloc (by simp) _⟩
set_option maxHeartbeats 4000000 in
set_option maxRecDepth 100000 in
theorem blkGet_any (A : Option Addr) (n c : Nat) (l : List UInt8) (W : World) (hr : Rd W W.heap.size A (bvs l)) (hn : l.length = n) (hnc : n ≤ c) (hn1 : n ≤ 1000000) {b : Nat} {wd rc md : Int} (hb : b ≤ 16777216) :
    Calls Try.prog 49 #[.slice A n c, .agg #[.int .i64 (b : Int), .int .i64 wd, .int .i64 rc, .int .i64 md]] W (BGetOut W (getB l b)) := by
  obtain ⟨r, hr0⟩ : ∃ r, r = getB l b := ⟨_, rfl⟩
  rw [← hr0]
  have HR0 := Lib.hid hr0
  have CT := Lib.hid (fun w' (hr' : Rd w' w'.heap.size A (bvs l)) => blkTag_any A n c l w' hr' hn 1 6)
  have HRD := Lib.hid hr
  have HB0 := Lib.hid (show Below W.heap.size W ((W.alloc (.cells #[.int .i64 (b : Int), .int .i64 wd, .int .i64 rc, .int .i64 md] 23)).alloc (.cells #[.int .i64 0, .int .i64 0, .int .i64 0, .int .i64 0, .int .u32 0, .int .i64 0, .int .i64 0] 37)) from ((Below.refl _ _).alloc (Nat.le_refl _) _).alloc (by simp) _)
  obtain ⟨t, ht⟩ : ∃ t, t = tagE l 1 6 := ⟨_, rfl⟩
  rw [← ht] at CT
  have HT := Lib.hid ht
  clear hr0 hr ht
  go_enter Try.func49, Try.ntmps49
  go_wp2_with fail
  refine (CT.out _ (by have h := HRD.out.below HB0.out; exact h.more (by simp; omega))).mono ?_
  rintro _ w1 ⟨rfl, hw1⟩
  subst hw1
  by_cases ht0 : t = 0
  · have htz : ¬ l.length = 0 ∧ ¬ ((l.getD 0 0).toNat < 1 ∨ 6 < (l.getD 0 0).toNat) := by
      have h := HT.out
      unfold tagE at h
      constructor
      · intro h0
        rw [if_pos h0] at h
        omega
      · intro h1
        by_cases h0 : l.length = 0
        · rw [if_pos h0] at h
          omega
        · rw [if_neg h0, if_pos h1] at h
          omega
    obtain ⟨hl0, hl1⟩ := htz
    obtain ⟨mo, hmo⟩ : ∃ mo, (l.getD 0 0).toNat = mo + 1 := ⟨(l.getD 0 0).toNat - 1, by omega⟩
    have hmo5 : mo ≤ 5 := by omega
    obtain ⟨e, ra, mi, co, at_, ⟨hg, hat⟩, hnum⟩ := numLd_any (A := A) (wd := wd) (rc := rc) (md := md) hn hnc hn1 (by omega) hb hmo hmo5
    rw [← HR0.out] at hg
    obtain ⟨ab, ao, hA, hbl, hcell⟩ := HRD.out.at_ (by rw [bvs_length]; omega)
    have hgg : (bvs l)[0]? = some (.int .u8 ((mo + 1 : Nat) : Int)) := by
      unfold bvs
      rw [List.getElem?_map, ← hmo, List.getD_eq_getElem?_getD, List.getElem?_eq_getElem (by omega)]
      rfl
    have c0 := (HB0.out.cell (p := ⟨ab, ao, none⟩) hbl).trans (hcell 0 _ hgg)
    rw [Int.natCast_add] at c0
    have hni : (0 : Int) < (n : Int) := by omega
    have HNUM := Lib.hid hnum
    have HG := Lib.hid hg
    have HMO := Lib.hid hmo
    subst hA
    subst ht0
    clear hnum hg hmo hl0 hl1 hgg hcell CT HT
    obtain ⟨w4, hw4⟩ : ∃ w4 : World, w4 = ((((W.alloc (.cells #[.int .i64 (b : Int), .int .i64 wd, .int .i64 rc, .int .i64 md] 23)).alloc (.cells #[.int .i64 0, .int .i64 0, .int .i64 0, .int .i64 0, .int .u32 0, .int .i64 0, .int .i64 0] 37)).alloc (.cells #[.int .i64 (mo : Int), .int .i64 0, .int .i64 0, .int .i64 0, .int .u32 0, .int .i64 0, .int .i64 0] 37)).alloc (.cells #[.int .i64 1] 3)) := ⟨_, rfl⟩
    have hB4 : Below W.heap.size W w4 := by rw [hw4]; exact (((((Below.refl _ _).alloc (Nat.le_refl _) _).alloc (by simp) _).alloc (by simp <;> omega) _).alloc (by simp <;> omega) _)
    have hO4 : Blk w4 W.heap.size 23 [.int .i64 (b : Int), .int .i64 wd, .int .i64 rc, .int .i64 md] := by
      rw [hw4]
      exact (blk_new W _ _ rfl).grow ((((Below.refl _ _).alloc (Nat.le_refl _) _).alloc (by simp) _).alloc (by simp <;> omega) _)
    have hZ4 : Blk w4 (W.heap.size + 1) 37 [.int .i64 0, .int .i64 0, .int .i64 0, .int .i64 0, .int .u32 0, .int .i64 0, .int .i64 0] := by
      rw [hw4]
      exact (blk_new _ _ _ (by simp)).grow (((Below.refl _ _).alloc (Nat.le_refl _) _).alloc (by simp) _)
    have hT4 : Blk w4 (W.heap.size + 1 + 1) 37 [.int .i64 (mo : Int), .int .i64 0, .int .i64 0, .int .i64 0, .int .u32 0, .int .i64 0, .int .i64 0] := by
      rw [hw4]
      exact (blk_new _ _ _ (by simp)).grow ((Below.refl _ _).alloc (Nat.le_refl _) _)
    have hP4 : Blk w4 (W.heap.size + 1 + 1 + 1) 3 [.int .i64 1] := by
      rw [hw4]
      exact blk_new _ _ _ (by simp)
    have HB4 := Lib.hid hB4
    have HO4 := Lib.hid hO4
    have HZ4 := Lib.hid hZ4
    have HT4 := Lib.hid hT4
    have HP4 := Lib.hid hP4
    have HW4 := Lib.hid hw4
    have hRD4 := HRD.out.below hB4
    have HRD4 := Lib.hid hRD4
    have q0 := hO4.cell 0
    have q1 := hO4.cell 1
    have q2 := hO4.cell 2
    have q3 := hO4.cell 3
    simp only [List.getElem?_cons_zero, List.getElem?_cons_succ] at q0 q1 q2 q3
    clear hB4 hO4 hZ4 hT4 hP4 hw4 hRD4
    go_wp2_with fail
    rw [← HW4.out]
    clear c0
    have CF := Lib.hid (fun W' => blkLaidFrom_any (some ⟨ab, ao, none⟩) n c (W.heap.size + 1 + 1 + 1) W')
    have q0d : w4.drew.cell? ⟨W.heap.size, 0, none⟩ = some (.int .i64 (b : Int)) := q0
    have q1d : w4.drew.cell? ⟨W.heap.size, 1, none⟩ = some (.int .i64 wd) := q1
    have q2d : w4.drew.cell? ⟨W.heap.size, 2, none⟩ = some (.int .i64 rc) := q2
    have q3d : w4.drew.cell? ⟨W.heap.size, 3, none⟩ = some (.int .i64 md) := q3
    go_region_with (first
      | (go_at_call 51; refine (CF.out _).mono ?_; rintro _ w5 ⟨G, H, rfl, hG, hH, hGn, hHn, hb5⟩; have hb5' : Below w4.heap.size w4 w5 := (Below.refl _ _).drew.trans hb5; have HG5 := Lib.hid hG; have HH5 := Lib.hid hH; have HB5 := Lib.hid hb5'; have q0e := (HO4.out.grow hb5').cell 0; have q1e := (HO4.out.grow hb5').cell 1; have q2e := (HO4.out.grow hb5').cell 2; have q3e := (HO4.out.grow hb5').cell 3; simp only [List.getElem?_cons_zero, List.getElem?_cons_succ] at q0e q1e q2e q3e; clear hG hH hb5 hb5' hGn hHn)
      | (go_at_call 27; refine (HNUM.out _ (W.heap.size + 1 + 1) _ _ (W.heap.size + 1 + 1 + 1) W.heap.size (HT4.out.grow HB5.out) ⟨HG5.out, HH5.out, HP4.out.grow HB5.out⟩ (HRD4.out.below (HB5.out.mono HB4.out.size)) (by omega) (by omega) (by omega)).mono ?_; rintro _ w6 ⟨rfl, hT6, ho6⟩; have HT6 := Lib.hid hT6; have HO6 := Lib.hid ho6; clear hT6 ho6))
    all_goals
      have hO := HB4.out.trans (HB5.out.mono HB4.out.size)
      have HB6 := Lib.hid (hO.trans (HO6.out.below (B := W.heap.size) (by simp; omega) hO.size))
      have HZ6 := Lib.hid (HO6.out.blk (HZ4.out.grow HB5.out) (by simp))
      have HRD6 := Lib.hid ((HRD.out.below HB6.out).more HB6.out.size)
      clear hO HO6 HZ4 HRD4 HO4 HT4 HP4 HG5 HH5 HB5 HNUM HB4 HW4 q0 q1 q2 q3 q0d q1d q2d q3d q0e q1e q2e q3e CF
      by_cases he0 : e = 0
      · obtain ⟨hT6, hP6⟩ := HT6.out he0
        subst he0
        have HTB := Lib.hid hT6
        have HPB := Lib.hid hP6
        have CS := Lib.hid (fun A3 c3 w (hr : Rd w w.heap.size A3 (bvs (l.drop at_))) (hc : n - at_ ≤ c3) => blkGetSum_any A3 (n - at_) c3 (l.drop at_) w hr (by rw [List.length_drop, hn]) hc)
        have p0 := hP6.cell 0
        simp only [List.getElem?_cons_zero] at p0
        clear hT6 hP6 HT6
        have hati : (at_ : Int) ≤ (n : Int) := by omega
        go_wp2_with ((with_reducible show wpList _ _ _ (({ dst := some 35, op := _, type := _, pos := _, after := _, guard := _ } : Oper) :: _) _ _); go_must (refine wpList_from rfl (.tmp 33) (.tmp 34) rfl Try.underlying29 (by kernel_rfl) w6.heap.size (some ⟨ab, ao, none⟩) n c at_ (bvs l) rfl rfl HRD6.out (by rw [bvs_length]; exact hn) hnc hat ?_; intro A3 c3 hc3 hrd3; have HRD7 := Lib.hid hrd3; clear hrd3))
        refine (CS.out A3 c3 _ (by have h := HRD7.out; rw [bvs_dropped] at h; exact h) hc3).mono ?_
        rintro _ w7 ⟨rfl, hb7⟩
        have HT7 := Lib.hid (HTB.out.grow hb7)
        have HP7 := Lib.hid (HPB.out.grow hb7)
        have HZ7 := Lib.hid (HZ6.out.grow hb7)
        have HB7 := Lib.hid (HB6.out.trans (hb7.mono HB6.out.size))
        clear hb7 CS HTB HPB HZ6 HB6 HRD7 HRD6 p0
        have p0 := HP7.out.cell 0
        have t0 := HT7.out.cell 0
        have t1 := HT7.out.cell 1
        have t2 := HT7.out.cell 2
        have t3 := HT7.out.cell 3
        have t4 := HT7.out.cell 4
        have t5 := HT7.out.cell 5
        have t6 := HT7.out.cell 6
        have f4 := HT7.out.frozen 4
        have z0 := HZ7.out.cell 0
        have z1 := HZ7.out.cell 1
        have z2 := HZ7.out.cell 2
        have z3 := HZ7.out.cell 3
        have z4 := HZ7.out.cell 4
        have z5 := HZ7.out.cell 5
        have z6 := HZ7.out.cell 6
        have g0 := HZ7.out.frozen 0
        have g1 := HZ7.out.frozen 1
        have g2 := HZ7.out.frozen 2
        have g3 := HZ7.out.frozen 3
        have g4 := HZ7.out.frozen 4
        have g5 := HZ7.out.frozen 5
        have g6 := HZ7.out.frozen 6
        simp only [List.getElem?_cons_zero, List.getElem?_cons_succ] at p0 t0 t1 t2 t3 t4 t5 t6 z0 z1 z2 z3 z4 z5 z6
        by_cases hsz : n - at_ < 4
        · rw [if_pos hsz, if_pos hsz]
          have hres : r = ((0, 0, 0, 0, 0), 0, 11) := by rw [HG.out, if_neg (fun h => h rfl), if_pos (by omega)]
          have HRS := Lib.hid hres
          clear hres hsz
          go_wp2
          exact bodyPost_ret (results_cell_tmp2 Try.results49 _ _ (W.heap.size + 1) 37 _ (0, 0) _ rfl (set7 (HZ7.out.setOther ⟨W.heap.size + 1 + 1, 4, none⟩ _ (by simp)) _ _ _ _ _ _ _) Try.underlying37 rfl size_blk) rfl ⟨by rw [HRS.out]; rfl, below7 (HB7.out.setCell (p := ⟨W.heap.size + 1 + 1, 4, none⟩) (by simp; omega) _) (by omega) _ _ _ _ _ _ _⟩
        · rw [if_neg hsz, if_neg hsz]
          obtain ⟨s, hs⟩ : ∃ s, s = sum4 (l.drop at_) := ⟨_, rfl⟩
          rw [← hs]
          have hsl : s < 4294967296 := by rw [hs]; exact sum4_lt _
          have hres : r = ((mo, ra, mi, co, s), at_ + 4, 0) := by rw [HG.out, if_neg (fun h => h rfl), if_neg (by omega), hs]
          have HRS := Lib.hid hres
          clear hres hsz hs
          go_wp2
          go_region
          all_goals
            go_wp2
            have hS := Blk.drew1 (set7 (HZ7.out.setOther ⟨W.heap.size + 1 + 1, 4, none⟩ (.int .u32 (s : Int)) (by simp)) (.int .i64 (mo : Int)) (.int .i64 (ra : Int)) (.int .i64 (mi : Int)) (.int .i64 (co : Int)) (.int .u32 (s : Int)) (.int .i64 0) (.int .i64 0))
            have hBe := (below7 (HB7.out.setCell (p := ⟨W.heap.size + 1 + 1, 4, none⟩) (by simp; omega) (.int .u32 (s : Int))) (show W.heap.size ≤ W.heap.size + 1 by omega) (.int .i64 (mo : Int)) (.int .i64 (ra : Int)) (.int .i64 (mi : Int)) (.int .i64 (co : Int)) (.int .u32 (s : Int)) (.int .i64 0) (.int .i64 0)).drew
            refine bodyPost_ret (results_cell_tmp2 Try.results49 _ _ (W.heap.size + 1) 37 _ (0, 0) _ rfl hS Try.underlying37 rfl size_blk) rfl ⟨?_, hBe⟩
            rw [HRS.out]
            simp only [Int.natCast_add]
            rfl
      · have hei : ¬ (e : Int) = 0 := by omega
        have hres : r = ((0, 0, 0, 0, 0), 0, e) := by rw [HG.out, if_pos he0]
        have HRS := Lib.hid hres
        clear hres he0 HT6
        have z0 := HZ6.out.cell 0
        have z1 := HZ6.out.cell 1
        have z2 := HZ6.out.cell 2
        have z3 := HZ6.out.cell 3
        have z4 := HZ6.out.cell 4
        have z5 := HZ6.out.cell 5
        have z6 := HZ6.out.cell 6
        have g0 := HZ6.out.frozen 0
        have g1 := HZ6.out.frozen 1
        have g2 := HZ6.out.frozen 2
        have g3 := HZ6.out.frozen 3
        have g4 := HZ6.out.frozen 4
        have g5 := HZ6.out.frozen 5
        have g6 := HZ6.out.frozen 6
        simp only [List.getElem?_cons_zero, List.getElem?_cons_succ] at z0 z1 z2 z3 z4 z5 z6
        go_wp2
        exact bodyPost_ret (results_cell_tmp2 Try.results49 _ _ (W.heap.size + 1) 37 _ (0, 0) _ rfl (set7 HZ6.out _ _ _ _ _ _ _) Try.underlying37 rfl size_blk) rfl ⟨by rw [HRS.out]; rfl, below7 HB6.out (by omega) _ _ _ _ _ _ _⟩
  · have hti : ¬ (t : Int) = 0 := by omega
    have hres : r = ((0, 0, 0, 0, 0), 0, t) := by
      rw [HR0.out]
      have h := HT.out
      unfold tagE at h
      unfold getB
      by_cases h0 : l.length = 0
      · rw [if_pos h0] at h
        rw [if_pos h0, h]
      · rw [if_neg h0] at h
        rw [if_neg h0]
        by_cases h1 : (l.getD 0 0).toNat < 1 ∨ 6 < (l.getD 0 0).toNat
        · rw [if_pos h1] at h
          rw [if_pos (by omega), h]
        · rw [if_neg h1] at h
          exact absurd h ht0
    have HRS := Lib.hid hres
    clear hres ht0 CT
    go_wp2
    exact bodyPost_ret (results_cell_tmp2 Try.results49 _ _ (W.heap.size + 1) 37 _ (0, 0) _ rfl (blk_new (W.alloc (.cells #[.int .i64 (b : Int), .int .i64 wd, .int .i64 rc, .int .i64 md] 23)) _ _ (by simp)) Try.underlying37 rfl size_blk) rfl ⟨by rw [HRS.out]; rfl, HB0.out⟩
end Go.Proofs.Ytjignfnkcbklkaa
namespace Go.Proofs.Ytjignfnkcbklkaa
open Go.RowKit Go.Sort

set_option maxHeartbeats 4000000 in
set_option maxRecDepth 100000 in
theorem blkGetEnd_any (A : Option Addr) (n c : Nat) (l : List UInt8) (W : World) (hr : Rd W W.heap.size A (bvs l)) (hn : l.length = n) (hnc : n ≤ c) (hn1 : n ≤ 1000000) :
    Calls Try.prog 40 #[.slice A n c] W (EndOut W (endG l)) := by
  obtain ⟨r, hr0⟩ : ∃ r, r = endG l := ⟨_, rfl⟩
  rw [← hr0]
  have HR0 := Lib.hid hr0
  have CT := Lib.hid (blkTag_any A n c l W hr hn 0 0)
  have HRD := Lib.hid hr
  obtain ⟨t, ht⟩ : ∃ t, t = tagE l 0 0 := ⟨_, rfl⟩
  rw [← ht] at CT
  have HT := Lib.hid ht
  clear hr0 hr ht
  go_enter Try.func40, Try.ntmps40
  go_wp2_with fail
  refine CT.out.mono ?_
  rintro _ w1 ⟨rfl, hw1⟩
  subst hw1
  by_cases ht0 : t = 0
  · have htz : ¬ l.length = 0 ∧ (l.getD 0 0).toNat = 0 := by
      have h := HT.out
      unfold tagE at h
      by_cases h0 : l.length = 0
      · rw [if_pos h0] at h
        omega
      · refine ⟨h0, ?_⟩
        rw [if_neg h0] at h
        by_cases h1 : (l.getD 0 0).toNat < 0 ∨ 0 < (l.getD 0 0).toNat
        · rw [if_pos h1] at h
          omega
        · omega
    obtain ⟨hl0, hl1⟩ := htz
    obtain ⟨y, hy⟩ : ∃ y, y = nbR (lget (l.drop 1)) 0 1099511627776 := ⟨_, rfl⟩
    have hyt := nbR_told (l.drop 1) 0 1099511627776
    rw [← hy] at hyt
    have HRY := Lib.hid (show r = if y.2.2 ≠ 0 then (0, 0, 0, y.2.2) else if n < 1 + y.2.1 + 4 then (0, 0, 0, 11) else (y.1, sum4 (l.drop (1 + y.2.1)), 1 + y.2.1 + 4, 0) by
      rw [HR0.out]; unfold endG; rw [if_neg hl0, if_neg (by omega), ← hy, hn])
    have HYT := Lib.hid hyt
    have HY := Lib.hid hy
    subst ht0
    obtain ⟨w4, hw4⟩ : ∃ w4 : World, w4 = (w1.alloc (.cells #[.int .i64 0] 3)).alloc (.cells #[.int .i64 1] 3) := ⟨_, rfl⟩
    have hB4 : Below w1.heap.size w1 w4 := by rw [hw4]; exact ((Below.refl _ _).alloc (Nat.le_refl _) _).alloc (by simp) _
    have hT4 : Blk w4 w1.heap.size 3 [.int .i64 0] := by
      rw [hw4]
      exact (blk_new _ _ _ rfl).grow ((Below.refl _ _).alloc (Nat.le_refl _) _)
    have hP4 : Blk w4 (w1.heap.size + 1) 3 [.int .i64 1] := by
      rw [hw4]
      exact blk_new _ _ _ (by simp)
    have HB4 := Lib.hid hB4
    have HT4 := Lib.hid hT4
    have HP4 := Lib.hid hP4
    have HW4 := Lib.hid hw4
    have CF := Lib.hid (fun W' => blkLaidFrom_any A n c (w1.heap.size + 1) W')
    clear hyt hy hB4 hT4 hP4 hw4 CT HT
    go_wp2_with fail
    rw [← HW4.out]
    refine (CF.out _).mono ?_
    rintro _ w5 ⟨G, H, rfl, hG, hH, hGn, hHn, hb5⟩
    have HG5 := Lib.hid hG
    have HH5 := Lib.hid hH
    have HB5 := Lib.hid hb5
    have HT5 := Lib.hid (HT4.out.grow hb5)
    have HP5 := Lib.hid (HP4.out.grow hb5)
    have hbb := HB4.out.trans (hb5.mono HB4.out.size)
    have HBB := Lib.hid hbb
    have HRD5 := Lib.hid (HRD.out.below hbb)
    clear hG hH hGn hHn hb5 hbb CF HT4 HP4
    have C1 := Lib.hid (fun (w' : World) (N : Nat) (hN : Blk w' N 87 (nvs30 w1.heap.size [(0, 0, 1099511627776)])) (hb' : Below w5.heap.size w5 w') =>
      show Calls Try.prog 58 #[.slice (some ⟨N, 0, none⟩) 1 1, .pointer (some ⟨G, 0, none⟩), .pointer (some ⟨H, 0, none⟩)] w' _ from
      blkLaid_any (L0 := [(0, 0, 1099511627776)]) (tT := 3) (B := w1.heap.size) (T := w1.heap.size) (P := w1.heap.size + 1) (HRD5.out.below (hb'.mono HBB.out.size)) (Nat.le_refl _) (by omega) hn hnc hn1 (by simp) hN (at0 := 1) ⟨HG5.out.grow hb', HH5.out.grow hb', HP5.out.grow hb'⟩ (by omega) (HT5.out.grow hb') (by intro q hq; simp at hq; subst hq; simp) (by omega) (by decide) (by decide) (by decide))
    go_wp2_with fail
    refine (C1.out _ _ (blk_new w5 _ _ rfl) ((Below.refl _ _).alloc (Nat.le_refl _) _)).mono ?_
    rintro _ w6 ⟨rfl, hT6, hL6, ho6⟩
    rw [take_one, ← HY.out] at hT6 hL6 ⊢
    have hb6 := HBB.out.alloc HBB.out.size (.cells #[.pointer (some ⟨w1.heap.size, 0, none⟩), .int .i64 0, .int .i64 1099511627776] 87)
    have HB6 := Lib.hid (hb6.trans (ho6.below (B := w1.heap.size) (by simp) hb6.size))
    clear ho6 hb6 C1
    rcases HYT.out with ⟨v, hv, hv40, -, -, hvl, -⟩ | hv | hv
    · obtain ⟨k, hk⟩ : ∃ k, k = (lput v).length := ⟨_, rfl⟩
      rw [← hk] at hv hvl
      subst hv
      rw [if_pos rfl] at hT6 hL6 ⊢
      rw [List.length_drop, hn] at hvl
      have hat : 1 + k ≤ n := by omega
      have HTB := Lib.hid (show Blk w6 w1.heap.size 3 [.int .i64 (v : Int)] from hT6)
      have HPB := Lib.hid (show Blk w6 (w1.heap.size + 1) 3 [.int .i64 ((1 + k : Nat) : Int)] from hL6.place)
      have HRD6 := Lib.hid ((HRD.out.below HB6.out).more HB6.out.size)
      have CS := Lib.hid (fun A3 c3 w (hr : Rd w w.heap.size A3 (bvs (l.drop (1 + k)))) (hc : n - (1 + k) ≤ c3) => blkGetSum_any A3 (n - (1 + k)) c3 (l.drop (1 + k)) w hr (by rw [List.length_drop, hn]) hc)
      have p0 := HPB.out.cell 0
      simp only [List.getElem?_cons_zero, Int.natCast_add] at p0
      have hati : (1 : Int) + (k : Int) ≤ (n : Int) := by omega
      clear hT6 hL6 hk HYT
      go_wp2_with ((with_reducible show wpList _ _ _ (({ dst := some 30, op := _, type := _, pos := _, after := _, guard := _ } : Oper) :: _) _ _); go_must (refine wpList_from rfl (.tmp 28) (.tmp 29) rfl Try.underlying29 (by kernel_rfl) w6.heap.size A n c (1 + k) (bvs l) rfl (by rw [Int.natCast_add]; rfl) HRD6.out (by rw [bvs_length]; exact hn) hnc hat ?_; intro A3 c3 hc3 hrd3; have HRD7 := Lib.hid hrd3; clear hrd3))
      refine (CS.out A3 c3 _ (by have h := HRD7.out; rw [bvs_dropped] at h; exact h) hc3).mono ?_
      rintro _ w7 ⟨rfl, hb7⟩
      have HT7 := Lib.hid (HTB.out.grow hb7)
      have HP7 := Lib.hid (HPB.out.grow hb7)
      have HB7 := Lib.hid (HB6.out.trans (hb7.mono HB6.out.size))
      clear hb7 CS HTB HPB HB6 HRD7 HRD6 p0
      have p0 := HP7.out.cell 0
      have t0 := HT7.out.cell 0
      simp only [List.getElem?_cons_zero, Int.natCast_add] at p0 t0
      by_cases hsz : n - (1 + k) < 4
      · rw [if_pos hsz, if_pos hsz]
        have hres : r = (0, 0, 0, 11) := by rw [HRY.out, if_neg (fun h => h rfl), if_pos (by omega)]
        have HRS := Lib.hid hres
        clear hres hsz
        go_wp2
        exact bodyPost_ret (results_tmp4 rfl _ _) rfl ⟨by rw [HRS.out]; rfl, HB7.out⟩
      · rw [if_neg hsz, if_neg hsz]
        obtain ⟨s, hs⟩ : ∃ s, s = sum4 (l.drop (1 + k)) := ⟨_, rfl⟩
        rw [← hs]
        have hres : r = (v, s, 1 + k + 4, 0) := by rw [HRY.out, if_neg (fun h => h rfl), if_neg (by omega), hs]
        have HRS := Lib.hid hres
        clear hres hsz hs
        go_wp2
        go_region
        all_goals
          go_wp2
          refine bodyPost_ret (results_tmp4 rfl _ _) rfl ⟨?_, HB7.out.drew⟩
          rw [HRS.out]
          simp only [Int.natCast_add]
          rfl
    · subst hv
      rw [if_neg (by decide)]
      have hres : r = (0, 0, 0, 11) := by rw [HRY.out]; rfl
      have HRS := Lib.hid hres
      clear hT6 hL6 hres
      go_wp2
      exact bodyPost_ret (results_tmp4 rfl _ _) rfl ⟨by rw [HRS.out]; rfl, HB6.out⟩
    · subst hv
      rw [if_neg (by decide)]
      have hres : r = (0, 0, 0, 15) := by rw [HRY.out]; rfl
      have HRS := Lib.hid hres
      clear hT6 hL6 hres
      go_wp2
      exact bodyPost_ret (results_tmp4 rfl _ _) rfl ⟨by rw [HRS.out]; rfl, HB6.out⟩
  · have hti : ¬ (t : Int) = 0 := by omega
    have hres : r = (0, 0, 0, t) := by
      rw [HR0.out]
      have h := HT.out
      unfold tagE at h
      unfold endG
      by_cases h0 : l.length = 0
      · rw [if_pos h0] at h
        rw [if_pos h0, h]
      · rw [if_neg h0] at h
        rw [if_neg h0]
        by_cases h1 : (l.getD 0 0).toNat < 0 ∨ 0 < (l.getD 0 0).toNat
        · rw [if_pos h1] at h
          rw [if_pos (by omega), h]
        · rw [if_neg h1] at h
          exact absurd h ht0
    have HRS := Lib.hid hres
    clear hres ht0 CT
    go_wp2
    exact bodyPost_ret (results_tmp4 rfl _ _) rfl ⟨by rw [HRS.out]; rfl, Below.refl _ _⟩
end Go.Proofs.Ytjignfnkcbklkaa
namespace Go.Proofs.Ytjignfnkcbklkaa
open Go.RowKit Go.Sort

theorem results_cell_tmp32 {P : Program} {fn : Func} {u p : Tmp} {ty : TypeId} (h : fn.results = #[.cell p ty, .tmp u]) (tmps : Array Value) (w : World) (g : Nat) (t : TypeId) (cs : Array Value) (fr : Nat × Nat) (d : TypeDesc)
    (hp : tmps.getD p undef = .pointer (some ⟨g, 0, none⟩)) (hg : w.heap[g]? = some (.cells cs t fr))
    (hu : P.underlying ty = some d) (hd : (match d with | .struct _ | .array _ _ => true | _ => false) = true) (hi : (P.info? ty).map (·.size) = some cs.size) :
    (results fn tmps).run P w = .ok (.tuple #[.agg cs, tmps.getD u undef]) w := by
  have hp' : tmps[p]?.getD undef = .pointer (some ⟨g, 0, none⟩) := by simpa using hp
  simp [results, h, hp', asAddr, run_loadVar_row w g t ty cs fr d hg hu hd hi]
/-- A block as cells. -/
def blkF (q : Five) (fr pl : Nat) : List Value := [.int .i64 (q.1 : Int), .int .i64 (q.2.1 : Int), .int .i64 (q.2.2.1 : Int), .int .i64 (q.2.2.2.1 : Int), .int .u32 (q.2.2.2.2 : Int), .int .i64 (fr : Int), .int .i64 (pl : Int)]
theorem blkGet_from {w : World} {A : Option Addr} {n m at_ b : Nat} {wd rc md : Int} {l : List UInt8} (hr : Rd w w.heap.size A (bvs l)) (hn : l.length = n) (hnm : n ≤ m) (hn1 : n ≤ 1000000) (hat : at_ ≤ n) (hb : b ≤ 16777216) :
    Calls Try.prog 49 #[.slice (if m = at_ then A else Option.map (fun x => x.add at_) A) (n - at_) (m - at_), .agg #[.int .i64 (b : Int), .int .i64 wd, .int .i64 rc, .int .i64 md]] w (BGetOut w (getB (l.drop at_) b)) :=
  blkGet_any _ (n - at_) (m - at_) (l.drop at_) w (rd_from hr hn hnm hat) (by rw [List.length_drop, hn]) (by omega) (by omega) hb
set_option maxHeartbeats 2000000 in
set_option maxRecDepth 100000 in
theorem frmEnd_any (A : Option Addr) (n c t : Nat) (l : List UInt8) (W : World) (hr : Rd W W.heap.size A (bvs l)) (hn : l.length = n) (hnc : n ≤ c) (hn1 : n ≤ 100000) :
    Calls Try.prog 23 #[.slice A n c, .int .i64 (t : Int)] W fun e w' => e = .returned (.tuple #[.int .u32 ((endE l t).1 : Int), .int .i64 ((endE l t).2 : Int)]) ∧ Below W.heap.size W w' := by
  have C := Lib.hid (blkGetEnd_any A n c l W hr hn hnc (by omega))
  rcases endG_told l with ⟨t', s, k, hg, h40, hs, hk, -, -⟩ | ⟨e, hg, he⟩
  · rw [hg] at C
    unfold EndOut at C
    simp only at C
    obtain ⟨E, hE, hc⟩ : ∃ E, endE l t = E ∧ ((t' ≠ t ∧ E = (0, 15)) ∨ (t' = t ∧ k < n ∧ E = (0, 19)) ∨ (t' = t ∧ ¬ k < n ∧ E = (s, 0))) := by
      refine ⟨_, rfl, ?_⟩
      unfold endE
      rw [hg, hn]
      simp only
      rw [if_neg (fun h => h rfl)]
      by_cases h1 : t' = t
      · rw [if_neg (fun h => h h1)]
        by_cases h2 : k < n
        · rw [if_pos h2]
          exact .inr (.inl ⟨h1, h2, rfl⟩)
        · rw [if_neg h2]
          exact .inr (.inr ⟨h1, h2, rfl⟩)
      · rw [if_pos h1]
        exact .inl ⟨h1, rfl⟩
    rw [hE]
    clear hE hg hr hn
    rcases hc with ⟨h1, rfl⟩ | ⟨rfl, h2, rfl⟩ | ⟨rfl, h2, rfl⟩
    · have h1i : ¬ (t' : Int) = (t : Int) := by omega
      go_enter Try.func23, Try.ntmps23
      go_wp2_with fail
      refine C.out.mono ?_
      rintro _ w1 ⟨rfl, hb1⟩
      go_wp2
      go_ret2
      exact ⟨rfl, hb1⟩
    · have h2i : (k : Int) < (n : Int) := by omega
      go_enter Try.func23, Try.ntmps23
      go_wp2_with fail
      refine C.out.mono ?_
      rintro _ w1 ⟨rfl, hb1⟩
      go_wp2
      go_ret2
      exact ⟨rfl, hb1⟩
    · have h2i : ¬ (k : Int) < (n : Int) := by omega
      go_enter Try.func23, Try.ntmps23
      go_wp2_with fail
      refine C.out.mono ?_
      rintro _ w1 ⟨rfl, hb1⟩
      go_wp2
      go_ret2
      exact ⟨rfl, hb1⟩
  · have he0 : e ≠ 0 := by omega
    have hei : ¬ (e : Int) = 0 := by omega
    have hE : endE l t = (0, e) := by
      unfold endE
      rw [hg]
      simp only
      rw [if_pos he0]
    rw [hE]
    rw [hg] at C
    unfold EndOut at C
    simp only at C
    clear hE hg hr hn
    go_enter Try.func23, Try.ntmps23
    go_wp2_with fail
    refine C.out.mono ?_
    rintro _ w1 ⟨rfl, hb1⟩
    go_wp2
    go_ret2
    exact ⟨rfl, hb1⟩
set_option maxRecDepth 100000 in
theorem frmBlocks_any (A : Option Addr) (n c : Nat) (b wd rc md p : Int) (W : World) :
    Calls Try.prog 22 #[.slice A n c, .agg #[.int .i64 b, .int .i64 wd, .int .i64 rc, .int .i64 md], .int .i64 p] W fun e w' =>
      e = .returned (.func (.func 38) #[] #[.pointer (some ⟨W.heap.size, 0, none⟩), .pointer (some ⟨W.heap.size + 1, 0, none⟩), .pointer (some ⟨W.heap.size + 1 + 1, 0, none⟩)]) ∧ w'.heap.size = W.heap.size + 3 ∧
        Blk w' W.heap.size 29 [.slice A n c] ∧ Blk w' (W.heap.size + 1) 23 [.int .i64 b, .int .i64 wd, .int .i64 rc, .int .i64 md] ∧ Blk w' (W.heap.size + 1 + 1) 3 [.int .i64 p] ∧ Below W.heap.size W w' := by
  go_enter Try.func22, Try.ntmps22
  have hmf : ∀ (fn : Fn) (first cap : Array Value) (w : World), (Instr.makeFunc fn first cap).run Try.prog w = .ok (.func fn first cap) w := fun _ _ _ _ => rfl
  go_wp2
  go_ret
  have hB1 := (Below.refl W.heap.size W).alloc (Nat.le_refl _) (.cells #[.slice A n c] 29)
  refine ⟨rfl, by simp, (blk_new W _ _ rfl).grow (((Below.refl _ _).alloc (Nat.le_refl _) _).alloc (by simp) _), (blk_new _ _ _ (by simp)).grow ((Below.refl _ _).alloc (Nat.le_refl _) _), blk_new _ _ _ (by simp), (((Below.refl _ _).alloc (Nat.le_refl _) _).alloc (by simp) _).alloc (by simp; omega) _⟩
end Go.Proofs.Ytjignfnkcbklkaa
