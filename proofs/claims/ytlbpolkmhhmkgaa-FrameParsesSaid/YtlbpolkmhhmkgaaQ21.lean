/-
  Layer 32: the reference: Parse.
-/
import Derived.Test.YtlbpolkmhhmkgaaQ10
import Derived.Test.YtlbpolkmhhmkgaaQ14
import Derived.Test.YtlbpolkmhhmkgaaQ20
namespace Go.Proofs.Ytlbpolkmhhmkgaa
open Go.RowKit Go.Sort

theorem refBGet_from {w : World} {A : Option Addr} {n m at_ b : Nat} {l : List UInt8} (hr : Rd w w.heap.size A (bvs l)) (hn : l.length = n) (hnm : n ≤ m) (hn1 : n ≤ 100000) (hat : at_ ≤ n) (hb : b ≤ 16777216) :
    Calls Try.prog 18 #[.slice (if m = at_ then A else Option.map (fun x => x.add at_) A) (n - at_) (m - at_), .int .i64 (b : Int)] w (BGetOut w (getB (l.drop at_) b)) :=
  refBGet_any _ (n - at_) (m - at_) (l.drop at_) w (rd_from hr hn hnm hat) (by rw [List.length_drop, hn]) (by omega) (by omega) b hb
/-- At the head of a round. -/
structure RefV (w : World) (H0 B2 B4 B7 : Nat) (o0 o1 o2 o3 : Int) (tt : Nat) (bs : List Blk7) (v : Value) (W : World) : Prop where
  b4 : Blk W B4 25 [.int .i64 o0, .int .i64 o1, .int .i64 o2, .int .i64 o3]
  b7 : Blk W B7 29 [.int .i64 o0, .int .i64 o1, .int .i64 o2, .int .i64 o3, v, .int .i64 (tt : Int), .int .u32 0]
  own : W.ownsRow H0 36 7 v bs.length (blksC bs)
  b2 : Blk W B2 29 [.int .i64 0, .int .i64 0, .int .i64 0, .int .i64 0, .slice none 0 0, .int .i64 0, .int .u32 0]
  below : Below w.heap.size w W
  le : H0 ≤ W.heap.size
theorem RefV.grow {w A C : World} {H0 B2 B4 B7 : Nat} {o0 o1 o2 o3 : Int} {tt : Nat} {bs : List Blk7} {v : Value} (h : RefV w H0 B2 B4 B7 o0 o1 o2 o3 tt bs v A) (hb : Below A.heap.size A C) : RefV w H0 B2 B4 B7 o0 o1 o2 o3 tt bs v C :=
  ⟨h.b4.grow hb, h.b7.grow hb, own_kept h.own hb, h.b2.grow hb, h.below.trans (hb.mono h.below.size), Nat.le_trans h.le hb.size⟩
theorem endR_14 {l : List UInt8} {o : List Int} {bs : List Blk7} {tt p : Nat} (hp : p < l.length) (hx : (l.getD p 0).toNat ≠ 0) : endR l o (bs, tt, p, 14) = noStream 14 := by
  have hd : (l.drop p).getD 0 0 = l.getD p 0 := by
    rw [List.getD_eq_getElem?_getD, List.getElem?_drop, Nat.add_zero, ← List.getD_eq_getElem?_getD]
  have hE : endG (l.drop p) = (0, 0, 0, 14) := by
    unfold endG
    rw [if_neg (by rw [List.length_drop]; omega), hd, if_pos hx]
  unfold endR endE
  simp only
  rw [if_neg (fun h => h rfl), hE]
  rfl
/-- What the end tells, ahead of which stand blocks of so many bytes. -/
def exitR (l : List UInt8) (o : List Int) (bs : List Blk7) (tt p : Nat) : StreamR :=
  if (endG (l.drop p)).2.2.2 ≠ 0 then noStream (endG (l.drop p)).2.2.2 else if (endG (l.drop p)).1 ≠ tt then noStream 15 else if p + (endG (l.drop p)).2.2.1 < l.length then noStream 19 else (o, bs, tt, (endG (l.drop p)).2.1, 0)
theorem exit_is {l : List UInt8} {o : List Int} {b k p tt : Nat} {bs : List Blk7} (hp : p ≤ l.length) (hx : p = l.length ∨ (l.getD p 0).toNat = 0) : endR l o (parL l b (k + 1) p tt bs) = exitR l o bs tt p := by
  by_cases hl : p = l.length
  · subst hl
    have hg : getB [] b = ((0, 0, 0, 0, 0), 0, 11) := rfl
    have hba : blkAt l b l.length = (noFive, 0, 11) := by
      unfold blkAt
      rw [List.drop_length, hg]
      rfl
    rw [parL_end hba (by decide)]
    unfold endR exitR
    rw [List.drop_length]
    rfl
  · have hx0 : (l.getD p 0).toNat = 0 := by
      rcases hx with h | h
      · exact absurd h hl
      · exact h
    have hd : (l.drop p).getD 0 0 = l.getD p 0 := by
      rw [List.getD_eq_getElem?_getD, List.getElem?_drop, Nat.add_zero, ← List.getD_eq_getElem?_getD]
    have hg : getB (l.drop p) b = ((0, 0, 0, 0, 0), 0, 14) := by
      unfold getB
      rw [if_neg (by rw [List.length_drop]; omega), hd, if_pos (.inl hx0)]
    have hba : blkAt l b p = (noFive, 0, 14) := by
      unfold blkAt
      rw [hg]
      rfl
    rw [parL_end hba (by decide)]
    have hle : ∀ q, (q < (l.drop p).length) = (p + q < l.length) := fun q => by rw [List.length_drop]; exact propext (by omega)
    unfold endR exitR endE
    obtain ⟨⟨t', s', k', e'⟩, hq⟩ : ∃ q, q = endG (l.drop p) := ⟨_, rfl⟩
    rw [← hq]
    simp only [hle]
    rw [if_neg (fun h => h rfl)]
    by_cases h1 : e' = 0
    · by_cases h2 : t' = tt
      · by_cases h3 : p + k' < l.length
        · simp [h1, h2, h3]
        · simp [h1, h2, h3]
      · simp [h1, h2]
    · simp [h1]
theorem refBGet_at {w : World} {A A3 : Option Addr} {n m at_ b : Nat} {l : List UInt8} (hA : A3 = (if m = at_ then A else Option.map (fun x => x.add at_) A)) (hr : Rd w w.heap.size A (bvs l)) (hn : l.length = n) (hnm : n ≤ m) (hn1 : n ≤ 100000) (hat : at_ ≤ n) (hb : b ≤ 16777216) :
    Calls Try.prog 18 #[.slice A3 (n - at_) (m - at_), .int .i64 (b : Int)] w (BGetOut w (getB (l.drop at_) b)) := by
  rw [hA]
  exact refBGet_from hr hn hnm hn1 hat hb
theorem own_setC32 {w : World} {base e size n CB : Nat} {v u : Value} {xs : List Value} {i : Nat} (h : w.ownsRow base e size v n xs) (hC : CB < base) : (w.setCell ⟨CB, i, none⟩ u).ownsRow base e size v n xs := by
  refine ⟨h.1, ?_⟩
  rcases h.2 with h0 | ⟨g, cap, cur, e1, hb, hg, rest⟩
  · exact .inl h0
  · exact .inr ⟨g, cap, cur, e1, hb, by rw [Below.heap_setCell _ _ _ _ (by simp; omega)]; exact hg, rest⟩
theorem res_bad {l : List UInt8} {o : List Int} {b k p tt e : Nat} {bs : List Blk7} (hg : getB (l.drop p) b = ((0, 0, 0, 0, 0), 0, e)) (he : e ≠ 0) (hp : p < l.length) (hx : (l.getD p 0).toNat ≠ 0) : endR l o (parL l b (k + 1) p tt bs) = noStream e := by
  have hba : blkAt l b p = (noFive, 0, e) := by unfold blkAt; rw [hg]; exact if_pos he
  rw [parL_end hba he]
  by_cases h : e = 14
  · subst h; exact endR_14 hp hx
  · unfold endR; exact if_pos h
theorem res_short {l : List UInt8} {o : List Int} {b k p tt k2 : Nat} {bs : List Blk7} {mo ra mi co su : Nat} (hg : getB (l.drop p) b = ((mo, ra, mi, co, su), k2, 0)) (hs : l.length - (p + k2) < co) : endR l o (parL l b (k + 1) p tt bs) = noStream 11 := by
  have hba : blkAt l b p = (noFive, 0, 11) := by unfold blkAt; rw [hg, if_neg (fun h => h rfl)]; exact if_pos hs
  rw [parL_end hba (by decide)]
  unfold endR
  exact if_pos (show (11 : Nat) ≠ 14 by decide)
theorem blk_yes {l : List UInt8} {b p k2 : Nat} {mo ra mi co su : Nat} (hg : getB (l.drop p) b = ((mo, ra, mi, co, su), k2, 0)) (hs : ¬ l.length - (p + k2) < co) : blkAt l b p = ((mo, ra, mi, co, su), p + k2, 0) := by
  unfold blkAt; rw [hg, if_neg (fun h => h rfl)]; exact if_neg hs
theorem refV_more {w Wd w4 : World} {H0 B2 B4 B7 : Nat} {o0 o1 o2 o3 : Int} {tt tt' : Nat} {bs : List Blk7} {q : Blk7} {v v' : Value} {tmp : Obj} (h : RefV w H0 B2 B4 B7 o0 o1 o2 o3 tt bs v Wd) (h2 : B2 < H0) (h4 : B4 < H0) (h7 : B7 < H0) (h27 : B2 ≠ B7) (h47 : B4 ≠ B7) (hwle : w.heap.size ≤ B7)
    (hown : w4.ownsRow H0 36 7 v' (bs.length + 1) (blksC bs ++ blkF q.1 q.2.1 q.2.2)) (hg : (Wd.alloc tmp).grownBy w4 v.ownBlock) :
    Blk w4 B7 29 [.int .i64 o0, .int .i64 o1, .int .i64 o2, .int .i64 o3, v, .int .i64 (tt : Int), .int .u32 0] ∧
    RefV w H0 B2 B4 B7 o0 o1 o2 o3 tt' (bs ++ [q]) v' ((w4.setCell ⟨B7, 4, none⟩ v').setCell ⟨B7, 5, none⟩ (.int .i64 (tt' : Int))) := by
  have hrow := own_block h.own
  have hle := h.le
  have hlow : ∀ k, k < H0 → w4.heap[k]? = Wd.heap[k]? := fun k hk =>
    (hg.block k (by simp; omega) (fun e => by have := hrow k e.symm; omega)).trans (Below.heap_alloc _ _ _ (by omega))
  have c7 : Blk w4 B7 29 [.int .i64 o0, .int .i64 o1, .int .i64 o2, .int .i64 o3, v, .int .i64 (tt : Int), .int .u32 0] := (hlow _ h7).trans h.b7
  have c2 : Blk w4 B2 29 _ := (hlow _ h2).trans h.b2
  have c4 : Blk w4 B4 25 _ := (hlow _ h4).trans h.b4
  have hsz : Wd.heap.size ≤ w4.heap.size := Nat.le_trans (by simp) hg.size
  have hall : ((w4.setCell ⟨B7, 4, none⟩ v').setCell ⟨B7, 5, none⟩ (.int .i64 (tt' : Int))).heap.size = w4.heap.size := by simp [World.setCell]
  have hbW : Below w.heap.size w w4 := (h.below.alloc h.below.size tmp).grown hg (Nat.le_trans h.below.size (by simp)) (fun g hg' => by have := hrow g hg'; omega)
  refine ⟨c7, ⟨(c4.setOther _ _ (by simpa using h47)).setOther _ _ (by simpa using h47), ?_, ?_, (c2.setOther _ _ (by simpa using h27)).setOther _ _ (by simpa using h27), (hbW.setCell (p := ⟨B7, 4, none⟩) (by simpa using hwle) _).setCell (p := ⟨B7, 5, none⟩) (by simpa using hwle) _, by rw [hall]; omega⟩⟩
  · have := (c7.set_ 4 v').set_ 5 (.int .i64 (tt' : Int))
    simpa using this
  · rw [List.length_append, List.length_singleton, blksC_snoc]
    exact own_setC32 (own_setC32 hown h7) h7
set_option maxRecDepth 100000 in
set_option maxHeartbeats 4000000 in
theorem refFParse_bad (A : Option Addr) (n c : Nat) (l : List UInt8) (W : World) (hr : Rd W W.heap.size A (bvs l)) (hn : l.length = n) (hnc : n ≤ c) (hn1 : n ≤ 10000) {m j e0 e : Nat} (hg : lget (l.drop 7) = (m, j, e0)) (hP : getP l m j e0 = ([0, 0, 0, 0], 0, e)) (he : e ≠ 0) :
    Calls Try.prog 8 #[.slice A n c] W (StrOut W (noStream e)) := by
  have C := Lib.hid (fun w (h : Rd w w.heap.size A (bvs l)) => refHGet_any A n c l w h hn hnc hn1 hg)
  rw [← get_same hg, hP] at C
  unfold GetOut at C
  rw [show optA ([0, 0, 0, 0], 0, e).1 = .agg #[.int .i64 0, .int .i64 0, .int .i64 0, .int .i64 0] from rfl] at C
  obtain ⟨w1, hw1⟩ : ∃ w1, w1 = W.alloc (.cells #[.int .i64 0, .int .i64 0, .int .i64 0, .int .i64 0, .slice none 0 0, .int .i64 0, .int .u32 0] 29) := ⟨_, rfl⟩
  have hB1 : Below W.heap.size W w1 := by rw [hw1]; exact (Below.refl _ _).alloc (Nat.le_refl _) _
  have h2 : Blk w1 W.heap.size 29 [.int .i64 0, .int .i64 0, .int .i64 0, .int .i64 0, .slice none 0 0, .int .i64 0, .int .u32 0] := by rw [hw1]; exact blk_new W _ _ rfl
  have HR1 := Lib.hid ((hr.below hB1).more hB1.size)
  have HW1 := Lib.hid hw1
  have HB1 := Lib.hid hB1
  have H2 := Lib.hid h2
  have hei : ¬ (e : Int) = 0 := by omega
  clear hr hw1 hB1 h2 hP hg
  go_enter Try.func8, Try.ntmps8
  go_wp2_with fail
  rw [← HW1.out]
  refine (C.out _ HR1.out).mono ?_
  rintro _ w2 ⟨rfl, hb2⟩
  have hE := alloc7 (H2.out.grow hb2) (.cells #[.int .i64 0, .int .i64 0, .int .i64 0, .int .i64 0] 25)
  have hEB := (HB1.out.trans (hb2.mono HB1.out.size)).alloc (HB1.out.trans (hb2.mono HB1.out.size)).size (.cells #[.int .i64 0, .int .i64 0, .int .i64 0, .int .i64 0] 25)
  obtain ⟨wC, hwC⟩ : ∃ wC, wC = (w2.alloc (.cells #[.int .i64 0, .int .i64 0, .int .i64 0, .int .i64 0] 25)).setRow W.heap.size #[.int .i64 0, .int .i64 0, .int .i64 0, .int .i64 0, .slice none 0 0, .int .i64 0, .int .u32 0] := ⟨_, rfl⟩
  have h2C : Blk wC W.heap.size 29 [.int .i64 0, .int .i64 0, .int .i64 0, .int .i64 0, .slice none 0 0, .int .i64 0, .int .u32 0] := by rw [hwC]; exact hE.setRow_ _
  have hbC : Below W.heap.size W wC := by rw [hwC]; exact below_setRow hEB (Nat.le_refl _) _
  have H1Z := Lib.hid (show (#[.int .i64 0, .int .i64 0, .int .i64 0, .int .i64 0, .slice none 0 0, .int .i64 0, .int .u32 0] : Array Value).all (·.oneCell') = true by simp [Value.oneCell'])
  have HEE := Lib.hid hE
  have H2C := Lib.hid h2C
  have HBC := Lib.hid hbC
  have HWC := Lib.hid hwC
  clear h2C hbC hwC hE hEB hb2 C
  go_wp2_with ((with_reducible show wpList _ _ _ (({ dst := none, op := .store 29 _ _, type := _, pos := _, after := _, guard := _ } : Oper) :: _) _ _); refine wpList_store_row rfl 29 (.tmp 2) (.tmp 23) rfl W.heap.size _ rfl rfl 29 _ HEE.out size_str rfl H1Z.out ?_; rw [← HWC.out])
  refine bodyPost_ret (results_cell_tmp32 Try.results8 _ _ W.heap.size 29 _ (0, 0) _ rfl H2C.out Try.underlying29 rfl size_str) rfl ?_
  exact ⟨_, rfl, nilBlks _, HBC.out⟩
end Go.Proofs.Ytlbpolkmhhmkgaa
