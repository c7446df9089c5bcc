/-
  Contracts of layer 14: Norm, where counts may be. · Plain mathematics of layer 15: numbers that are shared out to letters. Written ahead of the code. · Contracts of layer 15: fill, the reference's Check, Of, Letter. · Bytes as numbers: rows and cells of such. General: no code of the project. · Layer 18: the reference's Code. · slices.Reverse of bytes, over a row of one's own. · Layer 18: the program's encoder: give, in, turned.
-/
import Derived.Test.YtflcmmeoppdhdaaGreatR03
import Derived.Test.YtflcmmeoppdhdaaGreatR11
import Derived.Test.YtflcmmeoppdhdaaGreatR12
import Derived.Test.YtflcmmeoppdhdaaGreatR19
import Derived.Test.YtflcmmeoppdhdaaGreatR21
import Derived.Test.YtflcmmeoppdhdaaGreatR22
import Derived.Lib.OwnBridge
import Derived.Lib.SlicesMore
import Derived.Sort.WalkB12
import Derived.Deep.LoopGhost
import Derived.BigRegion
import Derived.Deep.AppendLies
import Derived.Deep.RegionLaw
namespace Go.Proofs.YtflcmmeoppdhdaaGreat
open Go.RowKit Go.Sort Go.Shelf

theorem nBad_not {c : List Int} (h : c.any nBad = false) : ∀ x ∈ c, 0 ≤ x ∧ x ≤ 1099511627776 := by
  intro x hx
  have := List.any_eq_false.1 h x hx
  simp [nBad] at this
  exact this
/-- What the last loop of Norm keeps: so many are still too many. -/
structure Trims (w : World) (c : List Int) (n g bs T d : Nat) (cur : List Int) (wr : World) : Prop where
  row : Blk wr g 3 (zvs cur)
  len : cur.length = n
  alike : Alike c cur
  sum : cur.sum = (T : Int) + (d : Int)
  box : Blk wr bs 53 [.slice (some ⟨g, 0, none⟩) n n]
  below : Below w.heap.size w wr
theorem Trims.next {w wr : World} {c : List Int} {n g bs T d k : Nat} {cur : List Int} (h : Trims w c n g bs T (d + 1) cur wr) (hc : ∀ x ∈ c, 0 ≤ x) (ht : many c ≤ (T : Int)) (hg : bs ≠ g) (hw : w.heap.size ≤ g) (hk : IsFirst cur k) :
    Trims w c n g bs T d (cur.set k (cur.getD k 0 - 1)) (wr.setCell ⟨g, k, none⟩ (.int .i64 (cur.getD k 0 - 1))).drew := by
  have hset := h.row.set_ k (.int .i64 (cur.getD k 0 - 1))
  rw [zvs_set] at hset
  have h2 := first_two h.alike hc ht (by have := h.sum; omega) hk
  refine ⟨hset.same rfl, by rw [List.length_set]; exact h.len, ⟨by rw [List.length_set]; exact h.alike.1, fun j hj => ?_⟩, by rw [set_sum14 cur k _ hk.1, h.sum]; omega, (h.box.setOther _ _ hg).same rfl, (h.below.setCell (p := ⟨g, k, none⟩) hw _).drew⟩
  rw [getD_set14 cur k j _ hk.1]
  have := h.alike.2 j hj
  split
  · rename_i e; subst e; constructor
    · omega
    · constructor
      · intro; omega
      · intro hz; have := this.2.2 hz; omega
  · exact this
section
variable {w : World} {B : Nat} {A : Option Addr} {n m : Nat} {c : List Int}
set_option maxRecDepth 100000 in
set_option maxHeartbeats 4000000 in
theorem normNorm_ok (b T : Nat) (hb1 : 1 ≤ b) (hb2 : b ≤ 16) (hT : T = 2 ^ b) (hbad : c.any nBad = false) (hr : Rd w w.heap.size A (zvs c)) (hn : c.length = n) (hn1 : n ≤ 4096) (h0 : many c ≠ 0) (hmT : many c ≤ (T : Int)) :
    Calls Tryz.prog 76 #[.slice A n m, .int .i64 (b : Int)] w fun e w' => ∃ g r, e = .returned (.tuple #[.slice (some ⟨g, 0, none⟩) n n, .int .i64 0]) ∧ w.heap.size ≤ g ∧ NormR c (T : Int) r ∧ Blk w' g 3 (zvs r) ∧ Below w.heap.size w w' := by
  obtain ⟨w1, hw1⟩ : ∃ w1, w1 = w.alloc (.cells #[.slice A n m] 53) := ⟨_, rfl⟩
  have hb : Below w.heap.size w w1 := by rw [hw1]; exact (Below.refl _ _).alloc (Nat.le_refl _) _
  have hk1 : Blk w1 w.heap.size 53 [.slice A n m] := by rw [hw1]; exact heap_alloc_new w _
  have hr1 : Rd w1 w1.heap.size A (zvs c) := (hr.below hb).more hb.size
  have b0 := hk1.cell 0
  simp only [List.getElem?_cons_zero] at b0
  have hnn := nBad_not hbad
  have hn0 : ∀ x ∈ c, 0 ≤ x := fun x hx => (hnn x hx).1
  have hsum : c.sum ≤ 9007199254740992 := by
    have h1 := sum_most 1099511627776 (l := c) (fun x hx => (hnn x hx).2)
    have h2 : c.length * 1099511627776 ≤ 4096 * 1099511627776 := Nat.mul_le_mul_right _ (by omega)
    omega
  have hpos : 0 < c.sum := by have := many_pos hn0; omega
  have hT1 : T ≤ 65536 := by rw [hT]; exact Nat.pow_le_pow_right (n := 2) (by decide) hb2
  have hT0 : 1 ≤ T := by rw [hT]; exact Nat.one_le_two_pow
  have hpow : (2 : Int) ^ b = (T : Int) := by rw [hT]; simp
  have c1 := normBad_any (m := m) hr1 hn hn1
  rw [hbad] at c1
  have C1 := Lib.hid c1
  have C2 := Lib.hid (normThere_any (m := m) hr1 hn hn1)
  have C3 := Lib.hid (normParts_any (m := m) (T : Int) hr1 hn hn1 hnn hsum hpos (by omega) (by omega))
  have HR := Lib.hid hr1
  have HB := Lib.hid hb
  have HK := Lib.hid hk1
  have ha := alike_shares hn0 (t := (T : Int)) (by omega) hpos
  have hsh : ∀ x ∈ c.map (nShare (T : Int) c.sum), 0 ≤ x ∧ x ≤ 65536 := fun x hx => by
    obtain ⟨y, hy, rfl⟩ := List.mem_map.1 hx
    have hy0 := hn0 y hy
    refine ⟨(nShare_nn hy0 (by omega) hpos).1, Int.le_trans (nShare_le ?_ (by omega) hpos) (by omega)⟩
    obtain ⟨i, hi, rfl⟩ := List.getElem_of_mem hy
    exact le_sum12 hn0 hi
  obtain ⟨S, hS⟩ : ∃ S, S = c.map (nShare (T : Int) c.sum) := ⟨_, rfl⟩
  have hNR : ∀ r, (if S.sum < (T : Int) then ∃ k, IsFirst c k ∧ r = S.set k (S.getD k 0 + ((T : Int) - S.sum)) else Trim (S.sum - (T : Int)).toNat S r) → NormR c (T : Int) r := fun r h => by
    unfold NormR; rw [← hS]; exact h
  rw [← hS] at ha hsh C3
  have hSl : S.length = n := by rw [hS, List.length_map, hn]
  have hSs : S.sum ≤ 268435456 := by
    have h1 := sum_most 65536 (l := S) (fun x hx => (hsh x hx).2)
    have h2 : S.length * 65536 ≤ 4096 * 65536 := Nat.mul_le_mul_right _ (by omega)
    omega
  have hSn : 0 ≤ S.sum := sum_nn12 (fun x hx => (hsh x hx).1)
  have HNR := Lib.hid hNR
  have HSH := Lib.hid hsh
  have HSL := Lib.hid hSl
  have HA := Lib.hid ha
  have HW1 := Lib.hid hw1
  have HN := Lib.hid hn
  have HM := Lib.hid (And.intro h0 hmT)
  have HNN := Lib.hid hn0
  have HLEN := Lib.hid (show 0 < c.length from Nat.pos_of_ne_zero fun e => h0 (by rw [List.eq_nil_of_length_eq_zero e]; rfl))
  obtain ⟨M, hM⟩ : ∃ M, M = many c := ⟨_, rfl⟩
  rw [← hM] at C2 h0 hmT
  have hM0 : (M == 0) = false := beq_eq_false_iff_ne.2 h0
  clear hr hr1 hb hk1 hn hnn hn0 hsum hpos c1 ha hsh hS hNR hSl hw1 hM hbad hT h0
  go_enter Tryz.func76, Tryz.ntmps76
  go_wp2_with fail
  rw [← HW1.out]
  refine C1.out.mono ?_
  rintro e w' ⟨rfl, hw⟩
  obtain rfl : _ = w' := hw.symm
  go_wp2_with fail
  refine C2.out.mono ?_
  rintro e w' ⟨rfl, hw⟩
  obtain rfl : _ = w' := hw.symm
  go_wp2_with fail
  refine C3.out.mono ?_
  rintro e w2 ⟨g, rfl, hg, hbg, hb2⟩
  have HB2 := Lib.hid (HB.out.trans (hb2.mono HB.out.size))
  have HK2 := Lib.hid (HK.out.grow hb2)
  have HR2 := Lib.hid ((HR.out.below hb2).more hb2.size)
  have HG := Lib.hid (show w.heap.size < g by have := HK.out.lt; omega)
  have hw3 : ∃ w3, w3 = w2.alloc (.cells #[.slice (some ⟨g, 0, none⟩) n n] 53) := ⟨_, rfl⟩
  obtain ⟨w3, hw3⟩ := hw3
  have hb3 : Below w2.heap.size w2 w3 := by rw [hw3]; exact (Below.refl _ _).alloc (Nat.le_refl _) _
  obtain ⟨bs, hbs⟩ : ∃ bs, bs = w2.heap.size := ⟨_, rfl⟩
  have hk3 : Blk w3 bs 53 [.slice (some ⟨g, 0, none⟩) n n] := by rw [hw3, hbs]; exact heap_alloc_new w2 _
  have d0 := hk3.cell 0
  have HB3 := Lib.hid (HB2.out.trans (hb3.mono HB2.out.size))
  have HK3 := Lib.hid (HK2.out.grow hb3)
  have HR3 := Lib.hid ((HR2.out.below hb3).more hb3.size)
  have HS3 := Lib.hid (hbg.grow hb3)
  have HBS := Lib.hid (show w.heap.size < bs ∧ g < bs from ⟨by rw [hbs]; exact HK2.out.lt, by rw [hbs]; exact hbg.lt⟩)
  have HKS := Lib.hid hk3
  have HW3 := Lib.hid hw3
  have e0 := HK3.out.cell 0
  simp only [List.getElem?_cons_zero] at d0 e0
  have c4 := normSum_any (m := n) (Rd.of_blk HS3.out) HSL.out hn1 (fun x hx => (HSH.out x hx).1) (by omega)
  have C4 := Lib.hid c4
  obtain ⟨s, hs⟩ : ∃ s, s = S.sum := ⟨_, rfl⟩
  rw [← hs] at C4 HNR hSs hSn
  have HS := Lib.hid hs
  clear b0 hg hbg hb2 hw3 hb3 hk3 c4 hs C1 C2 C3 HB HK HR HW1
  go_wp2_with fail
  rw [← HW3.out, ← hbs]
  refine C4.out.mono ?_
  rintro e w' ⟨rfl, hw⟩
  obtain rfl : _ = w' := hw.symm
  clear hbs C4
  by_cases hlt : s < (T : Int)
  · obtain ⟨k, hk⟩ := first_some c HLEN.out
    have CG := Lib.hid (fun (W : World) (h : W.heap = w3.heap) => normGreatest_at 118 #[.pointer (some ⟨w.heap.size, 0, none⟩)] (enters_of Tryz.func118 (by kernel_rfl) rfl) c HN.out hn1 k hk W
      (fun j hj => normOf1_any (m := m) (by have := (HK3.out.same h).cell 0; simpa only [List.getElem?_cons_zero] using this) (rd_same HR3.out h) HN.out j hj))
    have hkn : k < n := by have := hk.1; rw [HN.out] at this; exact this
    have hgc := HS3.out.cell k
    have hgf := HS3.out.frozen k
    have hkS : k < S.length := by rw [HSL.out]; exact hkn
    rw [zvs_get, List.getElem?_eq_getElem hkS] at hgc
    simp only [Option.map_some] at hgc
    have hyb := HSH.out _ (List.getElem_mem hkS)
    have hnr := HNR.out (S.set k (S.getD k 0 + ((T : Int) - s)))
    rw [if_pos hlt] at hnr
    have HRES := Lib.hid (hnr ⟨k, hk, rfl⟩)
    have hyd : S.getD k 0 = S[k]'hkS := by simp [List.getD_eq_getElem?_getD, hkS]
    rw [hyd] at HRES
    obtain ⟨y, hy⟩ : ∃ y, y = S[k]'hkS := ⟨_, rfl⟩
    rw [← hy] at hgc hyb HRES
    obtain ⟨hy0, hy1⟩ := hyb
    have hkni : (k : Int) < (n : Int) := by omega
    have hset := HS3.out.set_ k (.int .i64 (y + ((T : Int) - s)))
    rw [zvs_set] at hset
    have HSET := Lib.hid (hset.same (w' := (w3.setCell ⟨g, k, none⟩ (.int .i64 (y + ((T : Int) - s)))).drew) rfl)
    have HB4 := Lib.hid (HB3.out.setCell (p := ⟨g, k, none⟩) (Nat.le_of_lt HG.out) (.int .i64 (y + ((T : Int) - s)))).drew
    have HKS4 := Lib.hid ((HKS.out.setOther ⟨g, k, none⟩ (.int .i64 (y + ((T : Int) - s))) (by have := HBS.out.2; simp only; omega)).same (w' := (w3.setCell ⟨g, k, none⟩ (.int .i64 (y + ((T : Int) - s)))).drew) rfl)
    clear hk hnr hyd hy hset hkS
    go_wp2
    refine wp_region_still_tail 10 (by kernel_rfl) (by kernel_rfl) ?_
    simp only [List.take_succ_cons, List.take_zero, List.drop_succ_cons, List.drop_zero]
    iterate 4 still_step
    still_call (CG.out w3.drew rfl)
    repeat still_step
    refine wpStill_nil ?_
    change wpList _ _ _ _ _ w3.drew
    clear d0 e0 CG
    go_wp2
    clear hgc hgf
    obtain ⟨w4, hw4⟩ : ∃ w4, w4 = (w3.setCell ⟨g, k, none⟩ (.int .i64 (y + ((T : Int) - s)))).drew := ⟨_, rfl⟩
    rw [← hw4] at HSET HB4 HKS4 ⊢
    obtain ⟨r, hr⟩ : ∃ r, r = S.set k (y + ((T : Int) - s)) := ⟨_, rfl⟩
    rw [← hr] at HSET HRES
    clear hw4 hr
    go_loopw [9] (fun l wr => l = .int .i64 ((T : Int) - s) ∧ Blk wr g 3 (zvs r) ∧ Blk wr bs 53 [.slice (some ⟨g, 0, none⟩) n n] ∧ Below w.heap.size w wr) (fun _ _ => 0)
    case atStart => exact ⟨rfl, HSET.out, HKS4.out, HB4.out⟩
    case round =>
      clear HSET HKS4 HB4
      obtain ⟨rfl, hs, hk, hb⟩ := hrel
      have HSET := Lib.hid hs
      have HB4 := Lib.hid hb
      have d1 := hk.cell 0
      simp only [List.getElem?_cons_zero] at d1
      clear hs hk hb
      go_wp2
      go_ret2
      exact ⟨g, r, rfl, Nat.le_of_lt HG.out, HRES.out, HSET.out, HB4.out⟩
  · have hd0 := HNR.out
    simp only [if_neg hlt] at hd0
    obtain ⟨d0', hd0'⟩ : ∃ d : Nat, s = (T : Int) + (d : Int) := ⟨(s - T).toNat, by omega⟩
    rw [show (s - (T : Int)).toNat = d0' by omega] at hd0
    have HT := Lib.hid hd0
    have hd1 : d0' ≤ 268435456 := by omega
    have hSd := HS.out
    rw [hd0'] at hSd
    have HSD := Lib.hid hSd
    have hls : wrap64 ((T : Int) - s) = -(d0' : Int) := by rw [IntWalk.wrap64_in _ (by omega)]; omega
    clear hd0 hSd HNR hlt hSs hSn d0 e0 HS hd0'
    go_wp2
    simp only [hls]
    clear hls
    have HT3 := Lib.hid (show Trims w c n g bs T d0' S w3 from ⟨HS3.out, HSL.out, HA.out, HSD.out.symm, HKS.out, HB3.out⟩)
    go_loopw [9] (fun l wr => ∃ (d : Nat) (cur : List Int), l = .int .i64 (-(d : Int)) ∧ d ≤ d0' ∧ Trims w c n g bs T d cur wr ∧ (∀ r, Trim d cur r → NormR c (T : Int) r)) (fun l _ => (-(intOf l)).toNat)
    case atStart => exact ⟨d0', S, rfl, Nat.le_refl _, HT3.out, HT.out⟩
    case round =>
      clear HT HT3 HSD HS3 HKS HB3 HK3 HR3
      obtain ⟨d, cur, rfl, hd, htr, hall⟩ := hrel
      have HTR := Lib.hid htr
      have HALL := Lib.hid hall
      have d1 := htr.box.cell 0
      simp only [List.getElem?_cons_zero] at d1
      clear htr hall
      cases d with
      | zero =>
        have HRES := Lib.hid (HALL.out cur (.done cur))
        go_wp2
        go_ret2
        exact ⟨g, cur, rfl, Nat.le_of_lt HG.out, HRES.out, HTR.out.row, HTR.out.below⟩
      | succ d =>
        obtain ⟨k, hk⟩ := first_some cur (by have h1 := HTR.out.len; have h2 := HLEN.out; have h3 := HN.out; omega)
        have CG := Lib.hid (fun (W : World) (h : W.heap = wr.heap) => normGreatest_at 119 #[.pointer (some ⟨bs, 0, none⟩)] (enters_of Tryz.func119 (by kernel_rfl) rfl) cur HTR.out.len hn1 k hk W
          (fun j hj => normOf2_any (m := n) (by have := (HTR.out.box.same h).cell 0; simpa only [List.getElem?_cons_zero] using this) (Rd.of_blk (HTR.out.row.same h)) HTR.out.len j hj))
        have hkn : k < n := by have := hk.1; rw [HTR.out.len] at this; exact this
        have hgc := HTR.out.row.cell k
        have hgf := HTR.out.row.frozen k
        have hkS : k < cur.length := by rw [HTR.out.len]; exact hkn
        rw [zvs_get, List.getElem?_eq_getElem hkS] at hgc
        simp only [Option.map_some] at hgc
        have hyd : cur.getD k 0 = cur[k]'hkS := by simp [List.getD_eq_getElem?_getD, hkS]
        have hnn := all_nn14 HTR.out.alike
        have hy1 := le_sum12 hnn hkS
        have hy0 := hnn _ (List.getElem_mem hkS)
        rw [HTR.out.sum] at hy1
        have HNEXT := Lib.hid (HTR.out.next HNN.out HM.out.2 (by have := HBS.out.2; omega) (Nat.le_of_lt HG.out) hk)
        have HALL2 := Lib.hid (show ∀ r, Trim d (cur.set k (cur.getD k 0 - 1)) r → NormR c (T : Int) r from fun r hr => HALL.out r (.more d k cur r hk hr))
        rw [hyd] at HNEXT HALL2
        obtain ⟨y, hy⟩ : ∃ y, y = cur[k]'hkS := ⟨_, rfl⟩
        rw [← hy] at hgc hy0 hy1 HNEXT HALL2
        have hkni : (k : Int) < (n : Int) := by omega
        have hyT : y ≤ 536870912 := by omega
        clear hk hyd hy hkS hnn hy1
        go_wp2
        refine wp_region_still_tail 9 (by kernel_rfl) (by kernel_rfl) ?_
        simp only [List.take_succ_cons, List.take_zero, List.drop_succ_cons, List.drop_zero]
        iterate 4 still_step
        still_call (CG.out wr.drew rfl)
        repeat still_step
        refine wpStill_nil ?_
        change wpList _ _ _ _ _ wr.drew
        clear d1 CG
        go_wp2
        go_roundw
        case rel => exact ⟨d, cur.set k (y - 1), by go_num, by omega, HNEXT.out, HALL2.out⟩
        case measure => simp [intOf]; omega
end
end Go.Proofs.YtflcmmeoppdhdaaGreat
namespace Go.Proofs.YtflcmmeoppdhdaaGreat

/-- Whose each number is, of the first k letters' ones. -/
def sRow (c : List Int) : Nat → List Nat
  | 0 => []
  | k + 1 => sRow c k ++ List.replicate (c.getD k 0).toNat k
theorem sRow_len {c : List Int} (hc : ∀ x ∈ c, 0 ≤ x) : ∀ k, k ≤ c.length → ((sRow c k).length : Int) = fPre c k := by
  intro k
  induction k with
  | zero => intro _; simp [sRow, fPre_zero]
  | succ k ih =>
    intro hk
    have h1 := ih (by omega)
    have h2 := hc _ (List.getElem_mem (show k < c.length by omega))
    have e : c.getD k 0 = c[k] := by simp [List.getD_eq_getElem?_getD, show k < c.length by omega]
    rw [fPre_succ c k (by omega), ← h1]
    simp only [sRow, List.length_append, List.length_replicate, e]
    omega
/-- Whose a number is. -/
theorem sRow_get {c : List Int} (hc : ∀ x ∈ c, 0 ≤ x) {v : Nat} {r : Nat} (h : fFind c (v : Int) = some r) : ∀ k, r < k → k ≤ c.length → (sRow c k)[v]? = some r := by
  obtain ⟨-, hr, h2, h1⟩ := fFind_in h
  intro k
  induction k with
  | zero => intro h; omega
  | succ k ih =>
    intro hk hkc
    have hl := sRow_len hc k (by omega)
    simp only [sRow]
    by_cases e : r = k
    · subst e
      have hs := fPre_succ c r hr
      have e : c.getD r 0 = c[r] := by simp [List.getD_eq_getElem?_getD, hr]
      rw [List.getElem?_append_right (by omega), List.getElem?_replicate, if_pos (by rw [e]; omega)]
    · have := fPre_mono hc (a := r + 1) (b := k) (by omega)
      rw [List.getElem?_append_left (by omega)]
      exact ih (by omega) (by omega)
/-- Each number below all together is one letter's. -/
theorem fFind_all {c : List Int} (hc : ∀ x ∈ c, 0 ≤ x) {v : Int} (h0 : 0 ≤ v) (h1 : v < c.sum) : ∃ r, fFind c v = some r ∧ r < c.length ∧ fPre c r ≤ v ∧ v < fPre c (r + 1) := by
  obtain ⟨h2, h3⟩ := fSeek_find hc h0 h1 (k := c.length) Nat.lt_two_pow_self
  have := fFind_in h2
  exact ⟨_, h2, h3, this.2.2.2, this.2.2.1⟩
end Go.Proofs.YtflcmmeoppdhdaaGreat
namespace Go.Proofs.YtflcmmeoppdhdaaGreat
open Go.RowKit Go.Sort Go.Shelf

/-- A share that may not be. -/
def sBad (x : Int) : Bool := decide (x < 0)
theorem sBad_not {c : List Int} (h : c.any sBad = false) : ∀ x ∈ c, 0 ≤ x := by
  intro x hx
  have := List.any_eq_false.1 h x hx
  simp [sBad] at this
  exact this
/-- What is told of shares. -/
def SErr (c : List Int) (T : Nat) (err : Int) : Prop :=
  (c.any sBad = true ∧ err = 2) ∨ (c.any sBad = false ∧ (c.sum ≠ (T : Int) ∧ err = 3 ∨ c.sum = (T : Int) ∧ err = 0))
section
variable {w : World} {B : Nat} {A : Option Addr} {n m : Nat} {c : List Int}
set_option maxRecDepth 100000 in
theorem slotWrong_any (x : Int) (w : World) : Calls Tryz.prog 122 #[.int .i64 x] w fun e w' => e = .returned (.bool (sBad x)) ∧ w' = w := by
  unfold sBad
  go_enter Tryz.func122, Tryz.ntmps122
  go_wp2
  go_ret
  exact ⟨rfl, rfl⟩
theorem slotBad_any (hr : Rd w B A (zvs c)) (hn : c.length = n) (hn1 : n ≤ 4096) :
    Calls Tryz.prog 112 #[.slice A n m, .func (.func 122) #[] #[]] w fun e w' => e = .returned (.bool (c.any sBad)) ∧ w' = w :=
  contains_any 122 sBad (enters_of Tryz.func122 (by kernel_rfl) rfl) (fun x W => slotWrong_any x W) hr hn hn1
set_option maxRecDepth 100000 in
theorem slotFill_any (T : Nat) (hT : T ≤ 65536) (hr : Rd w B A (zvs c)) (hn : c.length = n) (hn1 : n ≤ 4096) (hnn : ∀ x ∈ c, 0 ≤ x) (o : Bool) (ho : o = true ↔ c.sum = (T : Int)) :
    Calls Tryz.prog 123 #[.slice A n m, .int .i64 (T : Int)] w fun e w' => e = .returned (.bool o) ∧ w' = w := by
  have HR := Lib.hid hr
  have HC := Lib.hid hn
  have HN := Lib.hid hnn
  have HO := Lib.hid ho
  clear hr hn hnn ho
  go_enter Tryz.func123, Tryz.ntmps123
  go_wp2
  go_loop [1, 9] (fun s i => ∃ (k : Nat) (z : Int), k ≤ n ∧ i = .int .i64 (k : Int) ∧ s = .int .i64 z ∧ 0 ≤ z ∧ z ≤ (T : Int) ∧ z = (T : Int) - fPre c k) (fun _ i => n - (intOf i).toNat)
  case atStart => exact ⟨0, T, Nat.zero_le _, rfl, rfl, by omega, Int.le_refl _, by rw [fPre_zero, Int.sub_zero]⟩
  case round =>
    obtain ⟨k, z, hk, rfl, rfl, hz0, hz1, hz⟩ := hrel
    have HZ := Lib.hid hz
    clear hz
    by_cases hlt : k < n
    · have hkc : k < c.length := by have := HC.out; omega
      obtain ⟨b, off, rfl, -, hcell⟩ := cell_of_rd HR.out hkc
      have hs := fPre_succ c k hkc
      have g1 := fPre_le HN.out (k + 1)
      have g2 := HN.out _ (List.getElem_mem hkc)
      obtain ⟨x, hx⟩ : ∃ x, x = c[k]'hkc := ⟨_, rfl⟩
      rw [← hx] at hcell hs g2
      have hki : (k : Int) < (n : Int) := by omega
      by_cases hg : z < x
      · have hof : o = false := by
          cases o with
          | false => rfl
          | true => have := HO.out.1 rfl; have := HZ.out; omega
        subst hof
        clear hs g1 hx
        go_wp2
        go_ret
        exact ⟨rfl, rfl⟩
      · have HZ2 := Lib.hid (show z - x = (T : Int) - fPre c (k + 1) by have := HZ.out; omega)
        clear hs g1 hx
        go_wp2
        go_round
        case rel => exact ⟨k + 1, z - x, by omega, by go_num, rfl, by omega, by omega, HZ2.out⟩
        case measure => simp [intOf]; omega
    · obtain rfl : k = n := by omega
      have h := HZ.out
      rw [fPre_most c (by have := HC.out; omega)] at h
      have ho2 : (z == 0) = o := by
        cases o with
        | true => have := HO.out.1 rfl; rw [beq_iff_eq]; omega
        | false =>
          rw [beq_eq_false_iff_ne]
          intro e
          have := HO.out.2 (by omega)
          cases this
      clear h HZ
      go_wp2
      go_ret
      exact ⟨rfl, rfl⟩
end
end Go.Proofs.YtflcmmeoppdhdaaGreat
namespace Go.Proofs.YtflcmmeoppdhdaaGreat
open Go.RowKit Go.Sort

theorem info_u8r : (Tryz.prog.info? 5).map (fun i => (i.zero, i.size, i.bytes)) = some (some (.int .u8 0), 1, 1) := by kernel_rfl
/-- Numbers as bytes. -/
def u8s (o : List Nat) : List UInt8 := o.map UInt8.ofNat
theorem u8s_length (o : List Nat) : (u8s o).length = o.length := by simp [u8s]
theorem bvs_u8s (o : List Nat) {c : Nat} (h : c < 256) : bvs (u8s (o ++ [c])) = bvs (u8s o) ++ [Value.int .u8 (c : Int)] := by
  have h2 : (UInt8.ofNat c).toNat = c := by simp [UInt8.toNat_ofNat']; omega
  simp [u8s, bvs, h2]
/-- Bytes, as numbers, as cells. -/
def nvs (B : List Nat) : List Value := B.map fun (b : Nat) => Value.int .u8 (b : Int)
theorem nvs_length (B : List Nat) : (nvs B).length = B.length := by simp [nvs]
theorem nvs_bvs (l : List UInt8) : nvs (l.map UInt8.toNat) = bvs l := by simp [nvs, bvs]
theorem nvs_drop (B : List Nat) (k : Nat) : (nvs B).drop k = nvs (B.drop k) := by simp [nvs]
end Go.Proofs.YtflcmmeoppdhdaaGreat
namespace Go.Proofs.YtflcmmeoppdhdaaGreat
open Go.RowKit Go.Sort Go.Shelf

/-- Letters by their shares. -/
def letL (r : List Int) (l : List UInt8) : List (Nat × Nat) := l.map fun b => ((fPre r b.toNat).toNat, (r.getD b.toNat 0).toNat)
theorem letL_cons (r : List Int) (b : UInt8) (l : List UInt8) : letL r (b :: l) = ((fPre r b.toNat).toNat, (r.getD b.toNat 0).toNat) :: letL r l := rfl
/-- Shares of a text: each of its letters has one. -/
structure SharesOf (l : List UInt8) (r : List Int) : Prop where
  len : r.length = 256
  nn : ∀ x ∈ r, 0 ≤ x
  sum : r.sum = 4096
  some : ∀ b ∈ l, 1 ≤ r.getD b.toNat 0
theorem shares_of {l : List UInt8} {r : List Int} (h0 : 0 < l.length) (h1 : l.length ≤ 4000) (h : NormR (cntL l) 4096 r) : SharesOf l r := by
  have hle := cntL_le l
  have hnn := fun x hx => (hle x hx).1
  have hmany : many (cntL l) ≤ 4096 := by have := many_le (cntL l); rw [cntL_len] at this; omega
  have hpos : 0 < (cntL l).sum := by
    obtain ⟨a, t, rfl⟩ := List.exists_cons_of_length_pos h0
    have h2 := cntL_mem (l := a :: t) (b := a) List.mem_cons_self
    have hlt : a.toNat < (cntL (a :: t)).length := by rw [cntL_len]; exact a.toNat_lt
    have h4 := le_sum12 hnn hlt
    have e : (cntL (a :: t)).getD a.toNat 0 = (cntL (a :: t))[a.toNat] := by simp [List.getD_eq_getElem?_getD, hlt]
    omega
  obtain ⟨hal, hs⟩ := h.keeps hnn (by decide) hpos hmany
  refine ⟨hal.1.trans (cntL_len l), all_nn14 hal, hs, fun b hb => ?_⟩
  have h2 := cntL_mem hb
  have h3 := hal.2 b.toNat (by rw [cntL_len]; exact b.toNat_lt)
  obtain ⟨g1, g2⟩ := h3
  have : r.getD b.toNat 0 ≠ 0 := fun e => by
    have := g2.1 e
    omega
  omega
theorem SharesOf.letter {l : List UInt8} {r : List Int} (h : SharesOf l r) {b : UInt8} (hb : b ∈ l) : okL ((fPre r b.toNat).toNat, (r.getD b.toNat 0).toNat) ∧ (((fPre r b.toNat).toNat : Nat) : Int) = fPre r b.toNat ∧ (((r.getD b.toNat 0).toNat : Nat) : Int) = r.getD b.toNat 0 := by
  have hlt : b.toNat < r.length := by rw [h.len]; exact b.toNat_lt
  have h1 := h.some b hb
  have h2 := fPre_nn h.nn b.toNat
  have h3 := fPre_le h.nn (b.toNat + 1)
  have h4 := fPre_succ r b.toNat hlt
  have e : r.getD b.toNat 0 = r[b.toNat] := by simp [List.getD_eq_getElem?_getD, hlt]
  have h5 := h.sum
  refine ⟨⟨by simp only; omega, by simp only; omega⟩, by omega, by omega⟩
theorem SharesOf.letters {l : List UInt8} {r : List Int} (h : SharesOf l r) (l' : List UInt8) (hs : ∀ b ∈ l', b ∈ l) : ∀ p ∈ letL r l', okL p := fun p hp => by
  obtain ⟨b, hb, rfl⟩ := List.mem_map.1 hp
  exact (h.letter (hs b hb)).1
theorem SharesOf.may {l : List UInt8} {r : List Int} (h : SharesOf l r) : ∀ x ∈ r, 0 ≤ x ∧ x ≤ 65536 := fun x hx => by
  obtain ⟨i, hi, rfl⟩ := List.getElem_of_mem hx
  have h1 := le_sum12 h.nn hi
  have h2 := h.nn _ hx
  have := h.sum
  omega
/-- A letter goes in, as the walk says it. -/
theorem in_vals {f s y : Nat} (hs : 1 ≤ s) (hf : f + s ≤ 4096) (hy : y < s * 524288) : ∃ q m q4 qf : Nat, (y : Int) / (s : Int) = (q : Int) ∧ (y : Int).tdiv (s : Int) = (q : Int) ∧ (y : Int) % (s : Int) = (m : Int) ∧ (y : Int).tmod (s : Int) = (m : Int) ∧ IntKind.i64.wrap (q : Int) = (q : Int) ∧ IntKind.i64.wrap ((q : Int) * 4096) = (q4 : Int) ∧ IntKind.i64.wrap ((q4 : Int) + (f : Int)) = (qf : Int) ∧ IntKind.i64.wrap ((qf : Int) + (m : Int)) = ((inX f s y : Nat) : Int) ∧ IntKind.i64.wrap (m : Int) = (m : Int) := by
  have h5 : y / s < 524288 := (Nat.div_lt_iff_lt_mul (by omega)).2 (by rw [Nat.mul_comm]; exact hy)
  have h6 : y % s < s := Nat.mod_lt y (by omega)
  have e : inX f s y = y / s * 4096 + f + y % s := rfl
  have d1 : (y : Int) / (s : Int) = ((y / s : Nat) : Int) := (Int.natCast_ediv _ _).symm
  have d2 : (y : Int) % (s : Int) = ((y % s : Nat) : Int) := (Int.natCast_emod _ _).symm
  obtain ⟨q, hq⟩ : ∃ q, q = y / s := ⟨_, rfl⟩
  obtain ⟨m, hm⟩ : ∃ m, m = y % s := ⟨_, rfl⟩
  rw [← hq] at h5 e d1
  rw [← hm] at h6 e d2
  refine ⟨q, m, q * 4096, q * 4096 + f, d1, ?_, d2, ?_, ?_, ?_, ?_, ?_, ?_⟩
  · rw [Int.tdiv_eq_ediv_of_nonneg (by omega)]; exact d1
  · rw [Int.tmod_eq_emod_of_nonneg (by omega)]; exact d2
  · rw [IntKind.wrap_i64]; omega
  · rw [IntKind.wrap_i64]; omega
  · rw [IntKind.wrap_i64]; omega
  · rw [e, IntKind.wrap_i64]; omega
  · rw [IntKind.wrap_i64]; omega
theorem u8s_snoc (o : List Nat) (c : Nat) : u8s (o ++ [c]) = u8s o ++ [UInt8.ofNat c] := by simp [u8s]
/-- What Code tells. -/
def RansSays (l : List UInt8) (B : List UInt8) : Prop := ∃ (r : List Int) (x : Nat) (T : List Nat), NormR (cntL l) 4096 r ∧ RansIn (letL r l) x T ∧ B = hPut r ++ u8s (be4 x ++ T)
theorem RansSays.one {l : List UInt8} {B B' : List UInt8} (h : RansSays l B) (h' : RansSays l B') : B = B' := by
  obtain ⟨r, x, T, h1, h2, rfl⟩ := h
  obtain ⟨r', x', T', h1', h2', rfl⟩ := h'
  obtain rfl := h1.one h1'
  obtain ⟨rfl, rfl⟩ := h2.one h2'
  rfl
section
variable {w : World} {A : Option Addr} {n m : Nat} {l : List UInt8}
end
end Go.Proofs.YtflcmmeoppdhdaaGreat
namespace Go.Proofs.YtflcmmeoppdhdaaGreat
open Go.RowKit Go.Sort Go.Lib

abbrev encB : Int → Value := fun x => Value.int .u8 x
set_option maxHeartbeats 2000000 in
set_option maxRecDepth 100000 in
theorem rev_arr (blk cap : Nat) (d : Array Int) (w : World) (hH : Holds encB w blk 0 d) (hsz : d.size ≤ 1000000) :
    Calls Tryz.prog 127 #[.slice (some ⟨blk, 0, none⟩) d.size cap] w fun e w' => e = .returned (.tuple #[]) ∧ ∃ n, w' = putRow encB (Sort.ahead w n) blk 0 d.reverse := by
  go_enter Tryz.func127, Tryz.ntmps127
  go_wp2
  go_loopg [2, 3] d.size (fun k s2 s3 wr => ∃ (i jn : Nat) (jz : Int) (dk : Array Int) (n : Nat), s2 = .int .i64 i ∧ s3 = .int .i64 jz ∧ ((i : Int) < jz → jz = jn ∧ jn < d.size) ∧ (¬ (i : Int) < jz → ¬ i < jn) ∧ jn - i ≤ k ∧
    dk.size = d.size ∧ wr = putRow encB (Sort.ahead w n) blk 0 dk ∧ reverseLoop i jn dk = reverseLoop 0 (d.size - 1) d)
  case atStart => exact ⟨0, d.size - 1, (d.size : Int) - 1, d, 0, rfl, rfl, fun h => ⟨by omega, by omega⟩, fun h => by omega, by omega, rfl, (putRow_self encB w blk 0 d hH).symm, rfl⟩
  case round =>
    obtain ⟨i, jn, jz, dk, n, rfl, rfl, h1, h2, hk, hds, hwr, heq⟩ := hrel
    by_cases hlt : (i : Int) < jz
    · obtain ⟨rfl, hjn⟩ := h1 hlt
      have hij : i < jn := by omega
      have hHk : Holds encB wr blk 0 dk := by rw [hwr]; exact holds_putRow encB _ blk 0 d dk (holds_ahead encB w n blk 0 d hH) hds
      obtain ⟨ci, fi⟩ := hHk i (by omega)
      obtain ⟨cj, fj⟩ := hHk jn (by omega)
      rw [Nat.zero_add] at ci fi cj fj
      have hii : (i : Int) < (d.size : Int) := by omega
      have hjj : (jn : Int) < (d.size : Int) := by omega
      have A := Lib.hid hwr
      have HEQ := Lib.hid heq
      have HDS := Lib.hid hds
      have hne : i ≠ jn := by omega
      clear hwr hHk hH h1 h2 heq hds
      go_wp2
      go_region
      all_goals go_wp2
      all_goals go_roundg (jn - 1 - (i + 1))
      case measure => omega
      case rel =>
        have heq := HEQ.out
        rw [reverseLoop, if_pos hij] at heq
        have hsw := swap_world encB (blk := blk) (off := 0) (show i < dk.size by have := HDS.out; omega) (show jn < dk.size by have := HDS.out; omega) A.out (x := encB dk[jn]!) (y := encB dk[i]!) rfl rfl
        rw [Nat.zero_add, Nat.zero_add] at hsw
        exact ⟨i + 1, jn - 1, (jn : Int) - 1, swp dk i jn, n + 1, by simp, rfl, fun h => ⟨by omega, by omega⟩, fun h => by omega, Nat.le_refl _, by rw [size_swp]; exact HDS.out, hsw, heq⟩
    · have hnot := h2 hlt
      go_wp2
      refine bodyPost_end (results_none rfl _ _ _) rfl ?_
      refine ⟨rfl, n, ?_⟩
      rw [reverseLoop, if_neg hnot] at heq
      rw [← Lib.reverseLoop_reverse, ← heq]
theorem bvs_enc (l : List UInt8) : bvs l = (l.map fun b => (b.toNat : Int)).map encB := by simp [bvs, encB]
/-- Of a row of one's own. -/
theorem rev_own {w : World} {B cap : Nat} {A : Option Addr} {l : List UInt8} (h : w.ownsRow B 5 1 (.slice A l.length cap) l.length (bvs l)) (hl : l.length ≤ 1000000) (hne : l ≠ []) :
    Calls Tryz.prog 127 #[.slice A l.length cap] w fun e w' => e = .returned (.tuple #[]) ∧ w'.ownsRow B 5 1 (.slice A l.length cap) l.length (bvs l.reverse) ∧ Below B w w' ∧ OnlyT B [5] w w' := by
  have h0 := h
  rw [bvs_enc] at h
  obtain ⟨g, c2, hv, hg, hgl, hn, hc, hlen, hH⟩ := holds_of_ownsRow h (fun e => by
    injection e with _ e2 _
    exact hne (List.length_eq_zero_iff.1 e2))
  injection hv with e1 _ e3
  subst e1 e3
  have hs : ((l.map fun b => (b.toNat : Int)).toArray).size = l.length := by simp
  have hC := rev_arr g cap (l.map fun b => (b.toNat : Int)).toArray w hH (by rw [hs]; exact hl)
  rw [hs] at hC
  refine hC.mono ?_
  rintro e w' ⟨rfl, n, rfl⟩
  have hrev : (l.map fun b => (b.toNat : Int)).toArray.reverse = (l.reverse.map fun b => (b.toNat : Int)).toArray := by simp
  rw [hrev]
  have hown := ownsRow_putRow (q := n) (k := l.length) (ys := l.reverse.map fun b => (b.toNat : Int)) h (by simp) (Nat.le_refl _)
  rw [List.take_of_length_le (by simp), ← bvs_enc] at hown
  have hb := below_putRow (enc := encB) (q := n) (d := (l.reverse.map fun b => (b.toNat : Int)).toArray) (Below.refl B w) hg
  refine ⟨rfl, hown, hb, ⟨hb.os, hb.tape, hb.output, hb.size, fun k hk hkt => ?_⟩⟩
  have hty := (own_type h0 g rfl).2
  have hgk : g ≠ k := fun e => by
    subst e
    rcases hkt with h1 | h1
    · omega
    · exact h1 _ (by simp) hty
  simp [putRow, mapBlock, Sort.ahead, Array.getElem?_modify, hgk]
end Go.Proofs.YtflcmmeoppdhdaaGreat
namespace Go.Proofs.YtflcmmeoppdhdaaGreat
open Go.RowKit Go.Sort

/-- The encoder at E: a state, and the bytes that went out, in a row of its own. -/
def EncS (w : World) (E x : Nat) (O : List UInt8) : Prop :=
  ∃ v, Blk w E 127 [.int .i64 (x : Int), v] ∧ w.ownsRow (E + 1) 5 1 v O.length (bvs O)
def encRT : List TypeId := [127, 5]
section
variable {w : World} {E x : Nat} {O : List UInt8}
theorem EncS.below {w' : World} (h : EncS w E x O) (hb : Below w.heap.size w w') : EncS w' E x O := by
  obtain ⟨v, hbl, hown⟩ := h
  exact ⟨v, hbl.grow hb, own_kept hown hb⟩
theorem EncS.same {w' : World} (h : EncS w E x O) (e : w'.heap = w.heap) : EncS w' E x O := by
  obtain ⟨v, hbl, hown⟩ := h
  refine ⟨v, hbl.same e, hown.1, ?_⟩
  rw [e]; exact hown.2
theorem EncS.lt (h : EncS w E x O) : E < w.heap.size := by
  obtain ⟨v, hbl, -⟩ := h
  exact hbl.lt
theorem own_setCellR {base e size n : Nat} {v : Value} {xs : List Value} {p : Addr} {u : Value} (h : w.ownsRow base e size v n xs) (hp : p.block < base) : (w.setCell p u).ownsRow base e size v n xs := by
  refine ⟨h.1, ?_⟩
  rcases h.2 with h0 | ⟨g, cap, cur, rfl, hbg, hg, rest⟩
  · exact .inl h0
  · exact .inr ⟨g, cap, cur, rfl, hbg, by rw [Below.heap_setCell w p u g (by omega)]; exact hg, rest⟩
theorem EncS.setX (h : EncS w E x O) (y : Nat) : EncS (w.setCell ⟨E, 0, none⟩ (.int .i64 (y : Int))) E y O ∧ OnlyT E encRT w (w.setCell ⟨E, 0, none⟩ (.int .i64 (y : Int))) := by
  obtain ⟨v, hb, hown⟩ := h
  exact ⟨⟨v, hb.set_ 0 _, own_setCellR hown (Nat.lt_succ_self _)⟩, OnlyT.set_ hb (Nat.le_refl _) _ (by simp [encRT])⟩
theorem give_end {A1 : Option Addr} {c1 c g7 cap7 : Nat} {w7 : World} (hown : w.ownsRow (E + 1) 5 1 (.slice A1 O.length c1) O.length (bvs O)) (hx : c < 256)
    (hb7 : Blk w7 E 127 [.int .i64 (x : Int), .slice A1 O.length c1]) (hg7 : World.grownBy (w.drew.alloc (.cells #[.int .u8 (c : Int)] 5)) w7 (Value.slice A1 O.length c1).ownBlock)
    (hown7 : w7.ownsRow (E + 1) 5 1 (.slice (some ⟨g7, 0, none⟩) (O.length + 1) cap7) (O.length + 1) (bvs O ++ [.int .u8 (c : Int)])) :
    EncS (w7.setCell ⟨E, 1, none⟩ (.slice (some ⟨g7, 0, none⟩) (O.length + 1) cap7)) E x (O ++ [UInt8.ofNat c]) ∧ OnlyT E encRT w (w7.setCell ⟨E, 1, none⟩ (.slice (some ⟨g7, 0, none⟩) (O.length + 1) cap7)) := by
  have h1 : OnlyT E encRT w (w.drew.alloc (.cells #[.int .u8 (c : Int)] 5)) := OnlyT.of_below ((Below.refl _ _).drew.alloc (Nat.le_refl _) _)
  have h2 : OnlyT E encRT (w.drew.alloc (.cells #[.int .u8 (c : Int)] 5)) w7 := OnlyT.grown hg7 (fun k hk => by
    obtain ⟨a, b⟩ := own_type (own_kept hown ((Below.refl w.heap.size w).drew.alloc (Nat.le_refl _) (.cells #[.int .u8 (c : Int)] 5))) k hk
    exact ⟨by omega, b⟩) (by simp [encRT])
  refine ⟨⟨_, hb7.set_ 1 _, ?_⟩, (h1.trans h2).trans (OnlyT.set_ hb7 (Nat.le_refl _) _ (by simp [encRT]))⟩
  have e : bvs (O ++ [UInt8.ofNat c]) = bvs O ++ [.int .u8 (c : Int)] := by
    rw [bvs_append]; simp [bvs, UInt8.toNat_ofNat', Nat.mod_eq_of_lt hx]
  rw [e, List.length_append, List.length_singleton]
  exact own_setCellR hown7 (Nat.lt_succ_self _)
set_option maxHeartbeats 2000000 in
set_option maxRecDepth 100000 in
theorem ransGive_any (h : EncS w E x O) (ho : O.length ≤ 100000) :
    Calls Tryz.prog 126 #[.pointer (some ⟨E, 0, none⟩)] w fun e w' => e = .returned (.tuple #[]) ∧ EncS w' E (x / 256) (O ++ [UInt8.ofNat (x % 256)]) ∧ OnlyT E encRT w w' := by
  obtain ⟨v, hb, hown⟩ := h
  obtain ⟨A1, c1, rfl, -, -, -⟩ := own_form hown
  obtain ⟨i0, hi0, hz0, hz1, hz2⟩ := info_parts info_u8r
  obtain ⟨c, hc, hc2⟩ : ∃ c, c = x % 256 ∧ c < 256 := ⟨_, rfl, by omega⟩
  obtain ⟨d, hd⟩ : ∃ d, d = x / 256 := ⟨_, rfl⟩
  have e1 : IntKind.u8.wrap (x : Int) = (c : Int) := by rw [IntKind.wrap_u8]; omega
  have e2 : (x : Int) % 256 = (c : Int) := by omega
  have e3 : (x : Int) / 2 ^ 8 = (d : Int) := by omega
  have e4 : (x : Int) / 256 = (d : Int) := by omega
  have hc0 := hb.cell 0
  have hc1 := hb.cell 1
  have hf0 := hb.frozen 0
  have hf1 := hb.frozen 1
  simp only [List.getElem?_cons_zero, List.getElem?_cons_succ] at hc0 hc1
  have HB := Lib.hid hb
  have HOWN := Lib.hid hown
  have HO := Lib.hid ho
  rw [← hc, ← hd]
  have HX := Lib.hid hc2
  have hgl : E < w.heap.size := hb.lt
  clear hb hown ho hc hc2 hd
  go_enter Tryz.func126, Tryz.ntmps126
  go_wp2
  go_region_law (refine step_append_lies _ (by rfl) _ _ _ (by rfl) (E + 1) 5 i0 (.int .u8 0) 1 1 Tryz.underlying22 hi0 hz0 hz1 hz2 rfl (by decide) _ _ _ (by rfl) ((own_drew HOWN.out).alloc _) _ 1 1 [.int .u8 (c : Int)] (by rfl) (by rfl) (World.news_of_block (heap_alloc_new _ _)) (by intro u hu; simp at hu; subst hu; rfl) (by decide) (by simp only [maxLen]; have := HO.out; omega) (by have := HO.out; omega) (by have := HB.out.lt; simp; omega) _ rfl ?_; intro g7 cap7 w7 hown7 hgr7 hat7 hlt7; have hrow := own_block HOWN.out; have hb7 : Blk w7 E 127 [.int .i64 (x : Int), .slice A1 O.length c1] := blk_row ((HB.out.same (w' := w.drew) rfl).alloc_ _) hgr7 (fun r e => by have := hrow r e; omega); have hc7 := hb7.cell 0; have hc8 := hb7.cell 1; have hf7 := hb7.frozen 0; have hf8 := hb7.frozen 1; simp only [List.getElem?_cons_zero, List.getElem?_cons_succ] at hc7 hc8; have HB7 := Lib.hid hb7; have HG7 := Lib.hid hgr7; have HOWN7 := Lib.hid hown7; clear hb7 hgr7 hown7 hat7 hlt7 hrow)
  all_goals
    obtain ⟨hE, hO⟩ := give_end HOWN.out HX.out HB7.out HG7.out HOWN7.out
    clear hc0 hc1 hf0 hf1 HB7 HG7 HOWN7 hc7 hc8 hf7 hf8
    generalize World.setCell w7 ⟨E, 1, none⟩ _ = w8 at *
    obtain ⟨v8, hb8, hown8⟩ := hE
    have HE := Lib.hid (show EncS w8 E x (O ++ [UInt8.ofNat c]) from ⟨v8, hb8, hown8⟩)
    have HO8 := Lib.hid hO
    have hc0 := hb8.cell 0
    have hf0 := hb8.frozen 0
    simp only [List.getElem?_cons_zero] at hc0
    clear hb8 hown8 hO
    go_wp2
    refine bodyPost_end (results_none rfl _ _ _) rfl ?_
    exact ⟨rfl, (HE.out.setX d).1, HO8.out.trans (HE.out.setX d).2⟩
/-- The state, as the world has it. -/
def encX (w : World) (E : Nat) : Nat := match w.cell? ⟨E, 0, none⟩ with
  | some (.int _ i) => i.toNat
  | _ => 0
theorem EncS.state (h : EncS w E x O) : encX w E = x := by
  obtain ⟨v, hb, -⟩ := h
  have hc := hb.cell 0
  simp only [List.getElem?_cons_zero] at hc
  unfold encX
  rw [hc]
  simp
/-- What holds at the head of a round of in. -/
def InRel (w : World) (E s y : Nat) (O : List UInt8) (o : List Nat) (wr : World) : Prop :=
  ∃ (x1 : Nat) (o1 o2 : List Nat), o1 ++ o2 = o ∧ Goes s x1 o2 y ∧ x1 < 2147483648 ∧ EncS wr E x1 (O ++ u8s o1) ∧ OnlyT E encRT w wr
set_option maxHeartbeats 2000000 in
set_option maxRecDepth 100000 in
theorem ransIn_any {f s y : Nat} {o : List Nat} (h : EncS w E x O) (hx : x < 2147483648) (hs : 1 ≤ s) (hf : f + s ≤ 4096) (hr : s * 2048 ≤ x) (ho : O.length ≤ 90000) (hg : Goes s x o y) :
    Calls Tryz.prog 81 #[.pointer (some ⟨E, 0, none⟩), .int .i64 (f : Int), .int .i64 (s : Int)] w fun e w' => e = .returned (.tuple #[]) ∧ EncS w' E (inX f s y) (O ++ u8s o) ∧ OnlyT E encRT w w' := by
  have hyr := hg.range hr
  have hol := goes_few hs 2 x o y hg (by omega)
  have HREL := Lib.hid (show InRel w E s y O o w from ⟨x, [], o, rfl, hg, hx, by rw [show u8s [] = [] from rfl, List.append_nil]; exact h, OnlyT.refl _ _ _⟩)
  have HYR := Lib.hid hyr
  have HO := Lib.hid (And.intro ho hol)
  have hs4 : (s : Int) ≤ 4096 := by omega
  have hs1 : (1 : Int) ≤ (s : Int) := by omega
  have hsw : IntKind.i64.wrap ((s : Int) * 524288) = (s : Int) * 524288 := by rw [IntKind.wrap_i64]; omega
  have HS := Lib.hid (And.intro hs hf)
  clear h hx hr ho hg hyr hol
  go_enter Tryz.func81, Tryz.ntmps81
  go_wp2
  go_loopw [] (InRel w E s y O o) (fun wr => encX wr E)
  case atStart => exact HREL.out
  case round =>
    clear HREL
    obtain ⟨x1, o1, o2, hoo, hg, hx1, he, hot⟩ := hrel
    have hmx := he.state
    have hol := congrArg List.length hoo
    rw [List.length_append] at hol
    have C := Lib.hid (ransGive_any he (by rw [List.length_append, u8s_length]; have := HO.out; omega))
    have HE := Lib.hid he
    have HOT := Lib.hid hot
    obtain ⟨v, hb, -⟩ := id he
    have hgl := hb.lt
    have hc0 := hb.cell 0
    have hf0 := hb.frozen 0
    simp only [List.getElem?_cons_zero] at hc0
    have HOO := Lib.hid hoo
    have HG := Lib.hid hg
    have HMX := Lib.hid hmx
    have HGL := Lib.hid hgl
    clear hoo hg he hot hb hmx hol
    by_cases hmore : s * 524288 ≤ x1
    · obtain ⟨o3, ho3, hg3⟩ : ∃ o3, o2 = x1 % 256 :: o3 ∧ Goes s (x1 / 256) o3 y := by
        cases HG.out with
        | stop _ h => omega
        | more _ o3 _ _ hr => exact ⟨o3, rfl, hr⟩
      have hmi : (s : Int) * 524288 ≤ (x1 : Int) := by omega
      have HG3 := Lib.hid (And.intro ho3 hg3)
      have hd31 : x1 / 256 < 2147483648 ∧ x1 / 256 < x1 := by omega
      have HD := Lib.hid hd31
      clear hd31 ho3 hg3
      go_wp2_with fail
      refine C.out.mono ?_
      rintro _ w5 ⟨rfl, he5, ho5⟩
      have HE5 := Lib.hid he5
      have HO5 := Lib.hid (HOT.out.trans ho5)
      clear he5 ho5 C HE HOT hc0 hf0
      go_wp2
      go_roundw
      case rel => exact ⟨x1 / 256, o1 ++ [x1 % 256], o3, by rw [List.append_assoc, ← HOO.out, HG3.out.1]; rfl, HG3.out.2, HD.out.1, by rw [u8s_snoc, ← List.append_assoc]; exact HE5.out, HO5.out⟩
      case measure => rw [HE5.out.state, HMX.out]; exact HD.out.2
    · obtain ⟨rfl, rfl⟩ : o2 = [] ∧ x1 = y := by
        cases HG.out with
        | stop => exact ⟨rfl, rfl⟩
        | more _ _ _ h _ => exact absurd h hmore
      have hoo := HOO.out
      rw [List.append_nil] at hoo
      subst hoo
      obtain ⟨q, mm, q4, qf, d1, d2, d3, d4, d5, d6, d7, d8, d9⟩ := in_vals HS.out.1 HS.out.2 HYR.out.2
      have hmi : ¬ (s : Int) * 524288 ≤ (x1 : Int) := by omega
      have hs0 : ¬ (s : Int) = 0 := by omega
      have hs0n : ¬ s = 0 := by omega
      obtain ⟨X, hX⟩ : ∃ X, X = inX f s x1 := ⟨_, rfl⟩
      rw [← hX] at d8
      have HX := Lib.hid hX
      clear C hX
      go_wp2
      go_region
      all_goals (go_wp2; refine bodyPost_end (results_none rfl _ _ _) rfl ?_)
      all_goals exact ⟨rfl, by rw [← HX.out]; exact (HE.out.setX X).1.same rfl, (HOT.out.trans (HE.out.setX X).2).drew⟩
end
end Go.Proofs.YtflcmmeoppdhdaaGreat
