/- Contracts of layer 14: Norm, where counts may be. -/
import Derived.Test.YtfdgnhfppginiaaNormDo
namespace Go.Proofs.Ytfdgnhfppginiaa
open Go.RowKit Go.Sort Go.Shelf

theorem nBad_not {c : List Int} (h : c.any nBad = false) : ∀ x ∈ c, 0 ≤ x ∧ x ≤ 1099511627776 := by
  intro x hx
  have := List.any_eq_false.1 h x hx
  simp [nBad] at this
  exact this
/-- What the last loop of Norm keeps: so many are still too many. -/
structure Trims (w : World) (c : List Int) (n g bs T d : Nat) (cur : List Int) (wr : World) : Prop where
  row : Blk wr g 3 (zvs cur)
  len : cur.length = n
  alike : Alike c cur
  sum : cur.sum = (T : Int) + (d : Int)
  box : Blk wr bs 37 [.slice (some ⟨g, 0, none⟩) n n]
  below : Below w.heap.size w wr
theorem Trims.next {w wr : World} {c : List Int} {n g bs T d k : Nat} {cur : List Int} (h : Trims w c n g bs T (d + 1) cur wr) (hc : ∀ x ∈ c, 0 ≤ x) (ht : many c ≤ (T : Int)) (hg : bs ≠ g) (hw : w.heap.size ≤ g) (hk : IsFirst cur k) :
    Trims w c n g bs T d (cur.set k (cur.getD k 0 - 1)) (wr.setCell ⟨g, k, none⟩ (.int .i64 (cur.getD k 0 - 1))).drew := by
  have hset := h.row.set_ k (.int .i64 (cur.getD k 0 - 1))
  rw [zvs_set] at hset
  have h2 := first_two h.alike hc ht (by have := h.sum; omega) hk
  refine ⟨hset.same rfl, by rw [List.length_set]; exact h.len, ⟨by rw [List.length_set]; exact h.alike.1, fun j hj => ?_⟩, by rw [set_sum14 cur k _ hk.1, h.sum]; omega, (h.box.setOther _ _ hg).same rfl, (h.below.setCell (p := ⟨g, k, none⟩) hw _).drew⟩
  rw [getD_set14 cur k j _ hk.1]
  have := h.alike.2 j hj
  split
  · rename_i e; subst e; constructor
    · omega
    · constructor
      · intro; omega
      · intro hz; have := this.2.2 hz; omega
  · exact this
section
variable {w : World} {B : Nat} {A : Option Addr} {n m : Nat} {c : List Int}
set_option maxRecDepth 100000 in
set_option maxHeartbeats 1000000 in
theorem normNorm_range (b T : Nat) (hb1 : 1 ≤ b) (hb2 : b ≤ 16) (hT : T = 2 ^ b) (hbad : c.any nBad = false) (hr : Rd w w.heap.size A (zvs c)) (hn : c.length = n) (hn1 : n ≤ 4096) (h : many c = 0 ∨ (T : Int) < many c) :
    Calls Try.prog 19 #[.slice A n m, .int .i64 (b : Int)] w fun e w' => e = NoShares 3 ∧ Below w.heap.size w w' := by
  have HB := Lib.hid (show Below w.heap.size w (w.alloc (.cells #[.slice A n m] 37)) from (Below.refl _ _).alloc (Nat.le_refl _) _)
  have hr1 := hr.alloc (Nat.le_refl _) (.cells #[.slice A n m] 37)
  have c1 := normBad_any (m := m) hr1 hn hn1
  rw [hbad] at c1
  have C1 := Lib.hid c1
  have c2 := normThere_any (m := m) hr1 hn hn1
  have hT1 : T ≤ 65536 := by rw [hT]; exact Nat.pow_le_pow_right (n := 2) (by decide) hb2
  have hT0 : 1 ≤ T := by rw [hT]; exact Nat.one_le_two_pow
  have hpow : (2 : Int) ^ b = (T : Int) := by rw [hT]; simp
  obtain ⟨M, hM⟩ : ∃ M, M = many c := ⟨_, rfl⟩
  rw [← hM] at c2 h
  have C2 := Lib.hid c2
  clear hr hr1 hn c1 c2 hbad hM hT
  by_cases h0 : M = 0
  · subst h0
    clear h
    go_enter Try.func19, Try.ntmps19
    go_wp2_with fail
    refine C1.out.mono ?_
    rintro e w' ⟨rfl, hw⟩
    obtain rfl : _ = w' := hw.symm
    go_wp2_with fail
    refine C2.out.mono ?_
    rintro e w' ⟨rfl, hw⟩
    obtain rfl : _ = w' := hw.symm
    go_wp2
    go_ret2
    exact ⟨rfl, HB.out⟩
  · have h1 : (T : Int) < M := by omega
    clear h
    go_enter Try.func19, Try.ntmps19
    go_wp2_with fail
    refine C1.out.mono ?_
    rintro e w' ⟨rfl, hw⟩
    obtain rfl : _ = w' := hw.symm
    go_wp2_with fail
    refine C2.out.mono ?_
    rintro e w' ⟨rfl, hw⟩
    obtain rfl : _ = w' := hw.symm
    go_wp2
    go_ret2
    exact ⟨rfl, HB.out⟩

set_option maxRecDepth 100000 in
set_option maxHeartbeats 4000000 in
theorem normNorm_ok (b T : Nat) (hb1 : 1 ≤ b) (hb2 : b ≤ 16) (hT : T = 2 ^ b) (hbad : c.any nBad = false) (hr : Rd w w.heap.size A (zvs c)) (hn : c.length = n) (hn1 : n ≤ 4096) (h0 : many c ≠ 0) (hmT : many c ≤ (T : Int)) :
    Calls Try.prog 19 #[.slice A n m, .int .i64 (b : Int)] w fun e w' => ∃ g r, e = .returned (.tuple #[.slice (some ⟨g, 0, none⟩) n n, .int .i64 0]) ∧ w.heap.size ≤ g ∧ NormR c (T : Int) r ∧ Blk w' g 3 (zvs r) ∧ Below w.heap.size w w' := by
  obtain ⟨w1, hw1⟩ : ∃ w1, w1 = w.alloc (.cells #[.slice A n m] 37) := ⟨_, rfl⟩
  have hb : Below w.heap.size w w1 := by rw [hw1]; exact (Below.refl _ _).alloc (Nat.le_refl _) _
  have hk1 : Blk w1 w.heap.size 37 [.slice A n m] := by rw [hw1]; exact heap_alloc_new w _
  have hr1 : Rd w1 w1.heap.size A (zvs c) := (hr.below hb).more hb.size
  have b0 := hk1.cell 0
  simp only [List.getElem?_cons_zero] at b0
  have hnn := nBad_not hbad
  have hn0 : ∀ x ∈ c, 0 ≤ x := fun x hx => (hnn x hx).1
  have hsum : c.sum ≤ 9007199254740992 := by
    have h1 := sum_most 1099511627776 (l := c) (fun x hx => (hnn x hx).2)
    have h2 : c.length * 1099511627776 ≤ 4096 * 1099511627776 := Nat.mul_le_mul_right _ (by omega)
    omega
  have hpos : 0 < c.sum := by have := many_pos hn0; omega
  have hT1 : T ≤ 65536 := by rw [hT]; exact Nat.pow_le_pow_right (n := 2) (by decide) hb2
  have hT0 : 1 ≤ T := by rw [hT]; exact Nat.one_le_two_pow
  have hpow : (2 : Int) ^ b = (T : Int) := by rw [hT]; simp
  have c1 := normBad_any (m := m) hr1 hn hn1
  rw [hbad] at c1
  have C1 := Lib.hid c1
  have C2 := Lib.hid (normThere_any (m := m) hr1 hn hn1)
  have C3 := Lib.hid (normParts_any (m := m) (T : Int) hr1 hn hn1 hnn hsum hpos (by omega) (by omega))
  have HR := Lib.hid hr1
  have HB := Lib.hid hb
  have HK := Lib.hid hk1
  have ha := alike_shares hn0 (t := (T : Int)) (by omega) hpos
  have hsh : ∀ x ∈ c.map (nShare (T : Int) c.sum), 0 ≤ x ∧ x ≤ 65536 := fun x hx => by
    obtain ⟨y, hy, rfl⟩ := List.mem_map.1 hx
    have hy0 := hn0 y hy
    refine ⟨(nShare_nn hy0 (by omega) hpos).1, Int.le_trans (nShare_le ?_ (by omega) hpos) (by omega)⟩
    obtain ⟨i, hi, rfl⟩ := List.getElem_of_mem hy
    exact le_sum12 hn0 hi
  obtain ⟨S, hS⟩ : ∃ S, S = c.map (nShare (T : Int) c.sum) := ⟨_, rfl⟩
  have hNR : ∀ r, (if S.sum < (T : Int) then ∃ k, IsFirst c k ∧ r = S.set k (S.getD k 0 + ((T : Int) - S.sum)) else Trim (S.sum - (T : Int)).toNat S r) → NormR c (T : Int) r := fun r h => by
    unfold NormR; rw [← hS]; exact h
  rw [← hS] at ha hsh C3
  have hSl : S.length = n := by rw [hS, List.length_map, hn]
  have hSs : S.sum ≤ 268435456 := by
    have h1 := sum_most 65536 (l := S) (fun x hx => (hsh x hx).2)
    have h2 : S.length * 65536 ≤ 4096 * 65536 := Nat.mul_le_mul_right _ (by omega)
    omega
  have hSn : 0 ≤ S.sum := sum_nn12 (fun x hx => (hsh x hx).1)
  have HNR := Lib.hid hNR
  have HSH := Lib.hid hsh
  have HSL := Lib.hid hSl
  have HA := Lib.hid ha
  have HW1 := Lib.hid hw1
  have HN := Lib.hid hn
  have HM := Lib.hid (And.intro h0 hmT)
  have HNN := Lib.hid hn0
  have HLEN := Lib.hid (show 0 < c.length from Nat.pos_of_ne_zero fun e => h0 (by rw [List.eq_nil_of_length_eq_zero e]; rfl))
  obtain ⟨M, hM⟩ : ∃ M, M = many c := ⟨_, rfl⟩
  rw [← hM] at C2 h0 hmT
  have hM0 : (M == 0) = false := beq_eq_false_iff_ne.2 h0
  clear hr hr1 hb hk1 hn hnn hn0 hsum hpos c1 ha hsh hS hNR hSl hw1 hM hbad hT h0
  go_enter Try.func19, Try.ntmps19
  go_wp2_with fail
  rw [← HW1.out]
  refine C1.out.mono ?_
  rintro e w' ⟨rfl, hw⟩
  obtain rfl : _ = w' := hw.symm
  go_wp2_with fail
  refine C2.out.mono ?_
  rintro e w' ⟨rfl, hw⟩
  obtain rfl : _ = w' := hw.symm
  go_wp2_with fail
  refine C3.out.mono ?_
  rintro e w2 ⟨g, rfl, hg, hbg, hb2⟩
  have HB2 := Lib.hid (HB.out.trans (hb2.mono HB.out.size))
  have HK2 := Lib.hid (HK.out.grow hb2)
  have HR2 := Lib.hid ((HR.out.below hb2).more hb2.size)
  have HG := Lib.hid (show w.heap.size < g by have := HK.out.lt; omega)
  have hw3 : ∃ w3, w3 = w2.alloc (.cells #[.slice (some ⟨g, 0, none⟩) n n] 37) := ⟨_, rfl⟩
  obtain ⟨w3, hw3⟩ := hw3
  have hb3 : Below w2.heap.size w2 w3 := by rw [hw3]; exact (Below.refl _ _).alloc (Nat.le_refl _) _
  obtain ⟨bs, hbs⟩ : ∃ bs, bs = w2.heap.size := ⟨_, rfl⟩
  have hk3 : Blk w3 bs 37 [.slice (some ⟨g, 0, none⟩) n n] := by rw [hw3, hbs]; exact heap_alloc_new w2 _
  have d0 := hk3.cell 0
  have HB3 := Lib.hid (HB2.out.trans (hb3.mono HB2.out.size))
  have HK3 := Lib.hid (HK2.out.grow hb3)
  have HR3 := Lib.hid ((HR2.out.below hb3).more hb3.size)
  have HS3 := Lib.hid (hbg.grow hb3)
  have HBS := Lib.hid (show w.heap.size < bs ∧ g < bs from ⟨by rw [hbs]; exact HK2.out.lt, by rw [hbs]; exact hbg.lt⟩)
  have HKS := Lib.hid hk3
  have HW3 := Lib.hid hw3
  have e0 := HK3.out.cell 0
  simp only [List.getElem?_cons_zero] at d0 e0
  have c4 := normSum_any (m := n) (Rd.of_blk HS3.out) HSL.out hn1 (fun x hx => (HSH.out x hx).1) (by omega)
  have C4 := Lib.hid c4
  obtain ⟨s, hs⟩ : ∃ s, s = S.sum := ⟨_, rfl⟩
  rw [← hs] at C4 HNR hSs hSn
  have HS := Lib.hid hs
  clear b0 hg hbg hb2 hw3 hb3 hk3 c4 hs C1 C2 C3 HB HK HR HW1
  go_wp2_with fail
  rw [← HW3.out, ← hbs]
  refine C4.out.mono ?_
  rintro e w' ⟨rfl, hw⟩
  obtain rfl : _ = w' := hw.symm
  clear hbs C4
  by_cases hlt : s < (T : Int)
  · obtain ⟨k, hk⟩ := first_some c HLEN.out
    have CG := Lib.hid (fun (W : World) (h : W.heap = w3.heap) => normGreatest_at 65 #[.pointer (some ⟨w.heap.size, 0, none⟩)] (enters_of Try.func65 (by kernel_rfl) rfl) c HN.out hn1 k hk W
      (fun j hj => normOf1_any (m := m) (by have := (HK3.out.same h).cell 0; simpa only [List.getElem?_cons_zero] using this) (rd_same HR3.out h) HN.out j hj))
    have hkn : k < n := by have := hk.1; rw [HN.out] at this; exact this
    have hgc := HS3.out.cell k
    have hgf := HS3.out.frozen k
    have hkS : k < S.length := by rw [HSL.out]; exact hkn
    rw [zvs_get, List.getElem?_eq_getElem hkS] at hgc
    simp only [Option.map_some] at hgc
    have hyb := HSH.out _ (List.getElem_mem hkS)
    have hnr := HNR.out (S.set k (S.getD k 0 + ((T : Int) - s)))
    rw [if_pos hlt] at hnr
    have HRES := Lib.hid (hnr ⟨k, hk, rfl⟩)
    have hyd : S.getD k 0 = S[k]'hkS := by simp [List.getD_eq_getElem?_getD, hkS]
    rw [hyd] at HRES
    obtain ⟨y, hy⟩ : ∃ y, y = S[k]'hkS := ⟨_, rfl⟩
    rw [← hy] at hgc hyb HRES
    obtain ⟨hy0, hy1⟩ := hyb
    have hkni : (k : Int) < (n : Int) := by omega
    have hset := HS3.out.set_ k (.int .i64 (y + ((T : Int) - s)))
    rw [zvs_set] at hset
    have HSET := Lib.hid (hset.same (w' := (w3.setCell ⟨g, k, none⟩ (.int .i64 (y + ((T : Int) - s)))).drew) rfl)
    have HB4 := Lib.hid (HB3.out.setCell (p := ⟨g, k, none⟩) (Nat.le_of_lt HG.out) (.int .i64 (y + ((T : Int) - s)))).drew
    have HKS4 := Lib.hid ((HKS.out.setOther ⟨g, k, none⟩ (.int .i64 (y + ((T : Int) - s))) (by have := HBS.out.2; simp only; omega)).same (w' := (w3.setCell ⟨g, k, none⟩ (.int .i64 (y + ((T : Int) - s)))).drew) rfl)
    clear hk hnr hyd hy hset hkS
    go_wp2
    refine wp_region_still_tail 10 (by kernel_rfl) (by kernel_rfl) ?_
    simp only [List.take_succ_cons, List.take_zero, List.drop_succ_cons, List.drop_zero]
    iterate 4 still_step
    still_call (CG.out w3.drew rfl)
    repeat still_step
    refine wpStill_nil ?_
    change wpList _ _ _ _ _ w3.drew
    clear d0 e0 CG
    go_wp2
    clear hgc hgf
    obtain ⟨w4, hw4⟩ : ∃ w4, w4 = (w3.setCell ⟨g, k, none⟩ (.int .i64 (y + ((T : Int) - s)))).drew := ⟨_, rfl⟩
    rw [← hw4] at HSET HB4 HKS4 ⊢
    obtain ⟨r, hr⟩ : ∃ r, r = S.set k (y + ((T : Int) - s)) := ⟨_, rfl⟩
    rw [← hr] at HSET HRES
    clear hw4 hr
    go_loopw [9] (fun l wr => l = .int .i64 ((T : Int) - s) ∧ Blk wr g 3 (zvs r) ∧ Blk wr bs 37 [.slice (some ⟨g, 0, none⟩) n n] ∧ Below w.heap.size w wr) (fun _ _ => 0)
    case atStart => exact ⟨rfl, HSET.out, HKS4.out, HB4.out⟩
    case round =>
      clear HSET HKS4 HB4
      obtain ⟨rfl, hs, hk, hb⟩ := hrel
      have HSET := Lib.hid hs
      have HB4 := Lib.hid hb
      have d1 := hk.cell 0
      simp only [List.getElem?_cons_zero] at d1
      clear hs hk hb
      go_wp2
      go_ret2
      exact ⟨g, r, rfl, Nat.le_of_lt HG.out, HRES.out, HSET.out, HB4.out⟩
  · have hd0 := HNR.out
    simp only [if_neg hlt] at hd0
    obtain ⟨d0', hd0'⟩ : ∃ d : Nat, s = (T : Int) + (d : Int) := ⟨(s - T).toNat, by omega⟩
    rw [show (s - (T : Int)).toNat = d0' by omega] at hd0
    have HT := Lib.hid hd0
    have hd1 : d0' ≤ 268435456 := by omega
    have hSd := HS.out
    rw [hd0'] at hSd
    have HSD := Lib.hid hSd
    have hls : wrap64 ((T : Int) - s) = -(d0' : Int) := by rw [IntWalk.wrap64_in _ (by omega)]; omega
    clear hd0 hSd HNR hlt hSs hSn d0 e0 HS hd0'
    go_wp2
    simp only [hls]
    clear hls
    have HT3 := Lib.hid (show Trims w c n g bs T d0' S w3 from ⟨HS3.out, HSL.out, HA.out, HSD.out.symm, HKS.out, HB3.out⟩)
    go_loopw [9] (fun l wr => ∃ (d : Nat) (cur : List Int), l = .int .i64 (-(d : Int)) ∧ d ≤ d0' ∧ Trims w c n g bs T d cur wr ∧ (∀ r, Trim d cur r → NormR c (T : Int) r)) (fun l _ => (-(intOf l)).toNat)
    case atStart => exact ⟨d0', S, rfl, Nat.le_refl _, HT3.out, HT.out⟩
    case round =>
      clear HT HT3 HSD HS3 HKS HB3 HK3 HR3
      obtain ⟨d, cur, rfl, hd, htr, hall⟩ := hrel
      have HTR := Lib.hid htr
      have HALL := Lib.hid hall
      have d1 := htr.box.cell 0
      simp only [List.getElem?_cons_zero] at d1
      clear htr hall
      cases d with
      | zero =>
        have HRES := Lib.hid (HALL.out cur (.done cur))
        go_wp2
        go_ret2
        exact ⟨g, cur, rfl, Nat.le_of_lt HG.out, HRES.out, HTR.out.row, HTR.out.below⟩
      | succ d =>
        obtain ⟨k, hk⟩ := first_some cur (by have h1 := HTR.out.len; have h2 := HLEN.out; have h3 := HN.out; omega)
        have CG := Lib.hid (fun (W : World) (h : W.heap = wr.heap) => normGreatest_at 66 #[.pointer (some ⟨bs, 0, none⟩)] (enters_of Try.func66 (by kernel_rfl) rfl) cur HTR.out.len hn1 k hk W
          (fun j hj => normOf2_any (m := n) (by have := (HTR.out.box.same h).cell 0; simpa only [List.getElem?_cons_zero] using this) (Rd.of_blk (HTR.out.row.same h)) HTR.out.len j hj))
        have hkn : k < n := by have := hk.1; rw [HTR.out.len] at this; exact this
        have hgc := HTR.out.row.cell k
        have hgf := HTR.out.row.frozen k
        have hkS : k < cur.length := by rw [HTR.out.len]; exact hkn
        rw [zvs_get, List.getElem?_eq_getElem hkS] at hgc
        simp only [Option.map_some] at hgc
        have hyd : cur.getD k 0 = cur[k]'hkS := by simp [List.getD_eq_getElem?_getD, hkS]
        have hnn := all_nn14 HTR.out.alike
        have hy1 := le_sum12 hnn hkS
        have hy0 := hnn _ (List.getElem_mem hkS)
        rw [HTR.out.sum] at hy1
        have HNEXT := Lib.hid (HTR.out.next HNN.out HM.out.2 (by have := HBS.out.2; omega) (Nat.le_of_lt HG.out) hk)
        have HALL2 := Lib.hid (show ∀ r, Trim d (cur.set k (cur.getD k 0 - 1)) r → NormR c (T : Int) r from fun r hr => HALL.out r (.more d k cur r hk hr))
        rw [hyd] at HNEXT HALL2
        obtain ⟨y, hy⟩ : ∃ y, y = cur[k]'hkS := ⟨_, rfl⟩
        rw [← hy] at hgc hy0 hy1 HNEXT HALL2
        have hkni : (k : Int) < (n : Int) := by omega
        have hyT : y ≤ 536870912 := by omega
        clear hk hyd hy hkS hnn hy1
        go_wp2
        refine wp_region_still_tail 9 (by kernel_rfl) (by kernel_rfl) ?_
        simp only [List.take_succ_cons, List.take_zero, List.drop_succ_cons, List.drop_zero]
        iterate 4 still_step
        still_call (CG.out wr.drew rfl)
        repeat still_step
        refine wpStill_nil ?_
        change wpList _ _ _ _ _ wr.drew
        clear d1 CG
        go_wp2
        go_roundw
        case rel => exact ⟨d, cur.set k (y - 1), by go_num, by omega, HNEXT.out, HALL2.out⟩
        case measure => simp [intOf]; omega
end
end Go.Proofs.Ytfdgnhfppginiaa
