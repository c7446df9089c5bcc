/-
  Layer 14's reference: Norm. · Plain mathematics of layer 15: numbers that are shared out to letters. Written ahead of the code. · Contracts of layer 15: fill, the reference's Check, Of, Letter. · Bytes as numbers: rows and cells of such. General: no code of the project.
-/
import Derived.Test.YtflcmmeoppdhdaaGreatQ03
import Derived.Test.YtflcmmeoppdhdaaGreatQ09
import Derived.Test.YtflcmmeoppdhdaaGreatQ10
import Derived.Test.YtflcmmeoppdhdaaGreatQ22
namespace Go.Proofs.YtflcmmeoppdhdaaGreat
open Go.RowKit Go.Sort Go.Shelf

/-- What the reference's last loop keeps: so many are still too many. -/
structure RTrims (w : World) (c : List Int) (n T d : Nat) (cur : List Int) (v : Value) (wr : World) : Prop where
  own : wr.ownsRow w.heap.size 3 1 v n (zvs cur)
  len : cur.length = n
  alike : Alike c cur
  sum : cur.sum = (T : Int) + (d : Int)
  below : Below w.heap.size w wr
theorem RTrims.same {w wr wr' : World} {c : List Int} {n T d : Nat} {cur : List Int} {v : Value} (h : RTrims w c n T d cur v wr) (e : wr'.heap = wr.heap) (hb : Below wr.heap.size wr wr') : RTrims w c n T d cur v wr' :=
  ⟨⟨h.own.1, by have := h.own.2; rw [← e] at this; exact this⟩, h.len, h.alike, h.sum, h.below.trans (hb.mono h.below.size)⟩
/-- One less where it is greatest. -/
theorem alike_less {c cur : List Int} {k : Nat} {t : Int} (h : Alike c cur) (hc : ∀ x ∈ c, 0 ≤ x) (ht : many c ≤ t) (hs : t < cur.sum) (hk : IsFirst cur k) : Alike c (cur.set k (cur.getD k 0 - 1)) := by
  have h2 := first_two h hc ht hs hk
  refine ⟨by rw [List.length_set]; exact h.1, fun j hj => ?_⟩
  rw [getD_set14 cur k j _ hk.1]
  have := h.2 j hj
  split
  · rename_i e; subst e; constructor
    · omega
    · constructor
      · intro; omega
      · intro hz; have := this.2.2 hz; omega
  · exact this
theorem RTrims.next {w wr : World} {c : List Int} {n T d k g cap : Nat} {cur : List Int} (h : RTrims w c n T (d + 1) cur (.slice (some ⟨g, 0, none⟩) n cap) wr) (hc : ∀ x ∈ c, 0 ≤ x) (ht : many c ≤ (T : Int)) (hw : w.heap.size ≤ g) (hk : IsFirst cur k) :
    RTrims w c n T d (cur.set k (cur.getD k 0 - 1)) (.slice (some ⟨g, 0, none⟩) n cap) (wr.setCell ⟨g, k, none⟩ (.int .i64 (cur.getD k 0 - 1))) := by
  have hset := h.own.stored k (.int .i64 (cur.getD k 0 - 1))
  rw [zvs_set] at hset
  exact ⟨hset.1, by rw [List.length_set]; exact h.len, alike_less h.alike hc ht (by have := h.sum; omega) hk, by rw [set_sum14 cur k _ hk.1, h.sum]; omega, h.below.setCell (p := ⟨g, k, none⟩) hw _⟩

section
variable {w : World} {B : Nat} {A : Option Addr} {n m : Nat} {c : List Int}
set_option maxRecDepth 100000 in
theorem rnNorm_arg (bits err : Int) (he : err = 2 ∨ err = 3) (hC : Calls Tryz.prog 58 #[.slice A n m, .int .i64 bits] w fun e w' => e = .returned (.int .i64 err) ∧ w' = w) :
    Calls Tryz.prog 29 #[.slice A n m, .int .i64 bits] w fun e w' => e = NoShares err ∧ w' = w := by
  have C := Lib.hid hC
  clear hC
  rcases he with rfl | rfl
  · go_enter Tryz.func29, Tryz.ntmps29
    go_wp2_with fail
    refine C.out.mono ?_
    rintro e w' ⟨rfl, hw⟩
    obtain rfl : _ = w' := hw.symm
    go_wp2
    go_ret2
    exact ⟨rfl, rfl⟩
  · go_enter Tryz.func29, Tryz.ntmps29
    go_wp2_with fail
    refine C.out.mono ?_
    rintro e w' ⟨rfl, hw⟩
    obtain rfl : _ = w' := hw.symm
    go_wp2
    go_ret2
    exact ⟨rfl, rfl⟩

theorem quo_val {t s x : Int} (ht0 : 0 ≤ t) (ht : t ≤ 65536) (hx0 : 0 ≤ x) (hx : x ≤ 1099511627776) (hs : 0 < s) : wrap64 ((wrap64 (x * t)).tdiv s) = x * t / s ∧ 0 ≤ x * t / s ∧ x * t / s ≤ 72057594037927936 := by
  have hp := prod_le ht0 ht hx0 hx
  rw [Int.mul_comm t x] at hp
  have hq := quo_le hp.1 hs
  rw [IntWalk.wrap64_in (x * t) (by omega), Int.tdiv_eq_ediv_of_nonneg hp.1, IntWalk.wrap64_in (x * t / s) (by omega)]
  exact ⟨rfl, by omega⟩
theorem row_snoc {s t : Int} {k : Nat} (h : k < c.length) : (c.take (k + 1)).map (nShare t s) = (c.take k).map (nShare t s) ++ [nShare t s c[k]] := by
  rw [List.take_add_one, List.getElem?_eq_getElem h, List.map_append]; rfl

set_option maxRecDepth 100000 in
set_option maxHeartbeats 4000000 in
theorem rnNorm_ok (b T : Nat) (hb1 : 1 ≤ b) (hb2 : b ≤ 16) (hT : T = 2 ^ b) (hbad : c.any nBad = false) (hr : Rd w w.heap.size A (zvs c)) (hn : c.length = n) (hn1 : n ≤ 4096) (h0 : many c ≠ 0) (hmT : many c ≤ (T : Int)) :
    Calls Tryz.prog 29 #[.slice A n m, .int .i64 (b : Int)] w fun e w' => ∃ g cap r, e = .returned (.tuple #[.slice (some ⟨g, 0, none⟩) n cap, .int .i64 0]) ∧ NormR c (T : Int) r ∧ w'.ownsRow w.heap.size 3 1 (.slice (some ⟨g, 0, none⟩) n cap) n (zvs r) ∧ Below w.heap.size w w' := by
  obtain ⟨i0, hi, hz0, hz1, hz2⟩ := info_parts info_int12
  have hnn := nBad_not hbad
  have hn0 : ∀ x ∈ c, 0 ≤ x := fun x hx => (hnn x hx).1
  have hsum : c.sum ≤ 9007199254740992 := by
    have h1 := sum_most 1099511627776 (l := c) (fun x hx => (hnn x hx).2)
    have h2 : c.length * 1099511627776 ≤ 4096 * 1099511627776 := Nat.mul_le_mul_right _ (by omega)
    omega
  have hpos : 0 < c.sum := by have := many_pos hn0; omega
  have hT1 : T ≤ 65536 := by rw [hT]; exact Nat.pow_le_pow_right (n := 2) (by decide) hb2
  have hT0 : 1 ≤ T := by rw [hT]; exact Nat.one_le_two_pow
  have C1 := Lib.hid (rnCheck_any (m := m) b T hb1 hb2 hT hr hn hn1 0 (.inr ⟨hbad, .inr ⟨⟨h0, hmT⟩, rfl⟩⟩))
  have C2 := Lib.hid (rnSum_any (m := m) hr hn hn1 hn0 hsum)
  have ha := alike_shares hn0 (t := (T : Int)) (by omega) hpos
  have hsh : ∀ x ∈ c.map (nShare (T : Int) c.sum), 0 ≤ x ∧ x ≤ 65536 := fun x hx => by
    obtain ⟨y, hy, rfl⟩ := List.mem_map.1 hx
    have hy0 := hn0 y hy
    refine ⟨(nShare_nn hy0 (by omega) hpos).1, Int.le_trans (nShare_le ?_ (by omega) hpos) (by omega)⟩
    obtain ⟨i, hi, rfl⟩ := List.getElem_of_mem hy
    exact le_sum12 hn0 hi
  have hnr : ∀ r S, S = c.map (nShare (T : Int) c.sum) → (if S.sum < (T : Int) then ∃ k, IsFirst c k ∧ r = S.set k (S.getD k 0 + ((T : Int) - S.sum)) else Trim (S.sum - (T : Int)).toNat S r) → NormR c (T : Int) r := fun r S e h => by
    subst e; unfold NormR; exact h
  have HNR := Lib.hid hnr
  have HA := Lib.hid ha
  have HSH := Lib.hid hsh
  have HN := Lib.hid hn
  have HNN := Lib.hid hnn
  have HN0 := Lib.hid hn0
  have HM := Lib.hid hmT
  have HM0 := Lib.hid hpos
  have HT := Lib.hid hT
  have HR := Lib.hid hr
  have HLEN := Lib.hid (show 0 < c.length from Nat.pos_of_ne_zero fun e => h0 (by rw [List.eq_nil_of_length_eq_zero e]; rfl))
  obtain ⟨s, hs⟩ : ∃ s, s = c.sum := ⟨_, rfl⟩
  rw [← hs] at C2 HNR HA HSH hpos hsum
  have HS := Lib.hid hs
  clear hr hn hnn hn0 ha hsh hnr hs hT hbad h0 hmT
  go_enter Tryz.func29, Tryz.ntmps29
  go_wp2_with fail
  refine C1.out.mono ?_
  rintro e w' ⟨rfl, hw⟩
  obtain rfl : _ = w' := hw.symm
  clear C1
  go_wp2
  go_loop [7, 8] (fun t i => ∃ k : Nat, k ≤ b ∧ i = .int .i64 (k : Int) ∧ t = .int .i64 ((2 ^ k : Nat) : Int)) (fun _ i => b - (intOf i).toNat)
  case atStart => exact ⟨0, Nat.zero_le _, rfl, rfl⟩
  case round =>
    obtain ⟨k, hk, rfl, rfl⟩ := hrel
    by_cases hlt : k < b
    · have hp : 2 ^ (k + 1) ≤ 65536 := Nat.pow_le_pow_right (n := 2) (by decide) (show k + 1 ≤ 16 by omega)
      have hp2 : 2 ^ (k + 1) = 2 * 2 ^ k := by rw [Nat.pow_succ]; omega
      obtain ⟨P, hP⟩ : ∃ P, P = 2 ^ k := ⟨_, rfl⟩
      rw [← hP] at hp2 ⊢
      rw [hp2] at hp
      have HP := Lib.hid hp2
      have hki : (k : Int) < (b : Int) := by omega
      clear hp2 hP
      go_wp2
      go_round
      case rel => exact ⟨k + 1, by omega, by go_num, by rw [HP.out]; simp⟩
      case measure => simp [intOf]; omega
    · obtain rfl : k = b := by omega
      rw [← HT.out]
      clear HT hlt hk hb1 hb2
      go_wp2_with fail
      refine C2.out.mono ?_
      rintro e w' ⟨rfl, hw⟩
      obtain rfl : _ = w' := hw.symm
      clear C2
      go_wp2
      go_loopw [10, 11] (fun v i wr => ∃ j : Nat, j ≤ n ∧ i = .int .i64 (j : Int) ∧ wr.ownsRow w.heap.size 3 1 v j (zvs ((c.take j).map (nShare (T : Int) s))) ∧ Below w.heap.size w wr) (fun _ i _ => n - (intOf i).toNat)
      case atStart => exact ⟨0, Nat.zero_le _, rfl, World.ownsRow_nil _ _ _ _, Below.refl _ _⟩
      case round =>
        obtain ⟨j, hj, rfl, hown, hb⟩ := hrel
        have hbs := hb.size
        by_cases hjn : j < n
        · have hjc : j < c.length := by have := HN.out; omega
          obtain ⟨ab, ao, rfl, hab, hcell0⟩ := cell_of_rd HR.out hjc
          have hcell := (hb.cell (p := ⟨ab, ao + j, none⟩) hab).trans hcell0
          have hx0 := HNN.out _ (List.getElem_mem hjc)
          have hsn := row_snoc (s := s) (t := (T : Int)) hjc
          obtain ⟨x, hx⟩ : ∃ x, x = c[j]'hjc := ⟨_, rfl⟩
          rw [← hx] at hcell hx0 hsn
          obtain ⟨q1, q2, q3⟩ := quo_val (t := (T : Int)) (s := s) (x := x) (by omega) (by omega) hx0.1 hx0.2 hpos
          have hjs : (j : Int) < (n : Int) := by omega
          have hval : nShare (T : Int) s x = if 0 < x ∧ x * (T : Int) / s = 0 then 1 else x * (T : Int) / s := rfl
          obtain ⟨q, hq⟩ : ∃ q, q = x * (T : Int) / s := ⟨_, rfl⟩
          rw [← hq] at q1 q2 q3 hval
          have HVAL := Lib.hid hval
          have HSN := Lib.hid hsn
          obtain ⟨Av, cv, rfl, -, -, -⟩ := own_form hown
          have hs0 : (s == 0) = false := beq_eq_false_iff_ne.2 (by omega)
          clear hsn hx hcell0 hq hval hab
          have HB := Lib.hid hb
          have HOWN := Lib.hid hown
          have Q1 := Lib.hid q1
          clear hb hown q1
          by_cases hx1 : 0 < x
          · by_cases hq0 : q = 0
            · have hv := HVAL.out
              rw [if_pos ⟨hx1, hq0⟩] at hv
              have HV := Lib.hid hv
              subst hq0
              clear hv HVAL
              have q1 := Q1.out
              go_wp2_with (at_builtin; go_must (refine wpList_app rfl (.tmp 54) (.tmp 56) 53 rfl w.heap.size 3 i0 (.int .i64 0) 1 8 Tryz.underlying53 hi hz0 hz1 hz2 rfl (by decide) _ _ _ rfl (HOWN.out.alloc _) _ _ 1 1 _ rfl (Rd.new _ _ _) rfl (by intro u hu; simp at hu; subst hu; rfl) (by simp only [maxLen]; omega) (by omega) (by simp; omega) ?_; intro v1 w2 hown1 hg1; have hb1 : Below w.heap.size w w2 := (HB.out.alloc hbs _).grown hg1 (by simp; omega) (own_block HOWN.out); clear hg1))
              go_roundw
              case rel => exact ⟨j + 1, by omega, by go_num, by rw [HSN.out, HV.out]; simpa [zvs] using hown1, hb1⟩
              case measure => simp [intOf]; omega
            · have hv := HVAL.out
              rw [if_neg (fun h => hq0 h.2)] at hv
              have HV := Lib.hid hv
              have hqb : (q == 0) = false := beq_eq_false_iff_ne.2 hq0
              clear hv HVAL
              have q1 := Q1.out
              go_wp2_with (at_builtin; go_must (refine wpList_app rfl (.tmp 54) (.tmp 56) 53 rfl w.heap.size 3 i0 (.int .i64 0) 1 8 Tryz.underlying53 hi hz0 hz1 hz2 rfl (by decide) _ _ _ rfl (HOWN.out.alloc _) _ _ 1 1 _ rfl (Rd.new _ _ _) rfl (by intro u hu; simp at hu; subst hu; rfl) (by simp only [maxLen]; omega) (by omega) (by simp; omega) ?_; intro v1 w2 hown1 hg1; have hb1 : Below w.heap.size w w2 := (HB.out.alloc hbs _).grown hg1 (by simp; omega) (own_block HOWN.out); clear hg1))
              go_roundw
              case rel => exact ⟨j + 1, by omega, by go_num, by rw [HSN.out, HV.out]; simpa [zvs] using hown1, hb1⟩
              case measure => simp [intOf]; omega
          · have hv := HVAL.out
            rw [if_neg (fun h => hx1 h.1)] at hv
            have HV := Lib.hid hv
            clear hv HVAL
            have q1 := Q1.out
            go_wp2_with (at_builtin; go_must (refine wpList_app rfl (.tmp 54) (.tmp 56) 53 rfl w.heap.size 3 i0 (.int .i64 0) 1 8 Tryz.underlying53 hi hz0 hz1 hz2 rfl (by decide) _ _ _ rfl (HOWN.out.alloc _) _ _ 1 1 _ rfl (Rd.new _ _ _) rfl (by intro u hu; simp at hu; subst hu; rfl) (by simp only [maxLen]; omega) (by omega) (by simp; omega) ?_; intro v1 w2 hown1 hg1; have hb1 : Below w.heap.size w w2 := (HB.out.alloc hbs _).grown hg1 (by simp; omega) (own_block HOWN.out); clear hg1))
            go_roundw
            case rel => exact ⟨j + 1, by omega, by go_num, by rw [HSN.out, HV.out]; simpa [zvs] using hown1, hb1⟩
            case measure => simp [intOf]; omega
        · obtain rfl : j = n := by omega
          rw [List.take_of_length_le (by have := HN.out; omega)] at hown
          obtain ⟨S, hS⟩ : ∃ S, S = c.map (nShare (T : Int) s) := ⟨_, rfl⟩
          rw [← hS] at hown HA HSH
          have hSl : S.length = j := by rw [hS, List.length_map, HN.out]
          have hSs : S.sum ≤ 268435456 := by
            have h1 := sum_most 65536 (l := S) (fun x hx => (HSH.out x hx).2)
            have h2 : S.length * 65536 ≤ 4096 * 65536 := Nat.mul_le_mul_right _ (by omega)
            omega
          have hSn : 0 ≤ S.sum := sum_nn12 (fun x hx => (HSH.out x hx).1)
          have HSL := Lib.hid hSl
          have hnr2 := fun r => HNR.out r S (by rw [hS, HS.out])
          have HNR2 := Lib.hid hnr2
          obtain ⟨Av, cv, rfl, -, -, hform⟩ := own_form hown
          obtain ⟨g, rfl, hgB, hgl⟩ : ∃ g, Av = some ⟨g, 0, none⟩ ∧ w.heap.size ≤ g ∧ g < wr.heap.size := by
            rcases hform with h | h
            · have := HLEN.out; have := HN.out; omega
            · exact h
          have C4 := Lib.hid (rnSum_any (m := cv) (Rd.of_own hown) hSl hn1 (fun x hx => (HSH.out x hx).1) (by omega))
          have HOWN := Lib.hid hown
          have HB := Lib.hid hb
          have HRw := Lib.hid ((HR.out.below hb).more hbs)
          have HSUM := Lib.hid (show S.sum = S.sum from rfl)
          obtain ⟨σ, hσ⟩ : ∃ σ, σ = S.sum := ⟨_, rfl⟩
          rw [← hσ] at C4 hSs hSn HNR2
          have HSG := Lib.hid hσ
          clear hSl hnr2 hform hown hb hS hσ HSUM HNR HR hgl hpos hsum HNN
          go_wp2_with fail
          refine C4.out.mono ?_
          rintro e w' ⟨rfl, hw⟩
          obtain rfl : _ = w' := hw.symm
          by_cases hlt : σ < (T : Int)
          · obtain ⟨k, hk⟩ := first_some c HLEN.out
            have CF := Lib.hid (rnFirst_at (m := m) HRw.out HN.out hn1 k hk)
            have hkn : k < j := by have := hk.1; rw [HN.out] at this; exact this
            have hkS : k < S.length := by rw [HSL.out]; exact hkn
            have hnr := HNR2.out (S.set k (S.getD k 0 + ((T : Int) - σ)))
            rw [if_pos hlt] at hnr
            have HRES := Lib.hid (hnr ⟨k, hk, rfl⟩)
            have hyd : S.getD k 0 = S[k]'hkS := by simp [List.getD_eq_getElem?_getD, hkS]
            have hyb := HSH.out _ (List.getElem_mem hkS)
            have hal : Alike c (S.set k (S.getD k 0 + ((T : Int) - σ))) := ⟨by rw [List.length_set]; exact HA.out.1, fun i hi => by
              rw [getD_set14 S k i _ hkS]
              have h1 := HA.out.2 i hi
              split
              · rename_i e; subst e
                have hp := first_pos hk HM0.out
                rw [hyd]
                refine ⟨by omega, fun h => by omega, fun h => by omega⟩
              · exact h1⟩
            have hss : (S.set k (S.getD k 0 + ((T : Int) - σ))).sum = (T : Int) + ((0 : Nat) : Int) := by rw [set_sum14 S k _ hkS, ← HSG.out]; simp only [Int.natCast_zero]; omega
            have HAL := Lib.hid hal
            have HSS := Lib.hid hss
            rw [hyd] at HRES HAL HSS
            have hcell : wr.cell? ⟨g, k, none⟩ = some (.int .i64 (S[k]'hkS)) := by
              rw [HOWN.out.cellAt k (by omega), zvs_get, List.getElem?_eq_getElem hkS]; rfl
            have hfr := HOWN.out.frozenAt k
            obtain ⟨y, hy⟩ : ∃ y, y = S[k]'hkS := ⟨_, rfl⟩
            rw [← hy] at hcell HRES HAL HSS hyb
            obtain ⟨hy0, hy1⟩ := hyb
            have hkji : (k : Int) < (j : Int) := by omega
            clear hk hnr hyd hal hss hy hkS C4
            go_wp2_with fail
            refine CF.out.mono ?_
            rintro e w5 ⟨rfl, hh5, hb5⟩
            have hcell5 : w5.cell? ⟨g, k, none⟩ = some (.int .i64 y) := (World.cell?_of_block (by rw [hh5])).trans hcell
            have hfr5 : w5.frozen? ⟨g, k, none⟩ = false := by rw [← hfr]; exact frozen_same hh5 _
            have hown5 : w5.ownsRow w.heap.size 3 1 (.slice (some ⟨g, 0, none⟩) j cv) j (zvs S) := ⟨HOWN.out.1, by have := HOWN.out.2; rw [← hh5] at this; exact this⟩
            have C5 := Lib.hid (fun (W : World) (h : W.heap = w5.heap) => rnSum_any (w := W) (m := cv) (rd_same (Rd.of_own hown5) h) HSL.out hn1 (fun x hx => (HSH.out x hx).1) (by rw [← HSG.out]; omega))
            rw [← HSG.out] at C5
            have hset := hown5.stored k (.int .i64 (y + (T : Int) - σ))
            rw [zvs_set] at hset
            have hval : y + (T : Int) - σ = y + ((T : Int) - σ) := by omega
            obtain ⟨d, hd⟩ : ∃ d : Nat, d = 0 := ⟨_, rfl⟩
            have HT5 := Lib.hid (show RTrims w c j T d (S.set k (y + ((T : Int) - σ))) (.slice (some ⟨g, 0, none⟩) j cv) (w5.setCell ⟨g, k, none⟩ (.int .i64 (y + (T : Int) - σ))).drew from
              ⟨by rw [← hval]; exact own_drew hset.1, by rw [List.length_set]; exact HSL.out, HAL.out, by rw [hd]; exact HSS.out, ((HB.out.trans (hb5.mono hbs)).setCell (p := ⟨g, k, none⟩) hgB _).drew⟩)
            obtain ⟨cur, hcur⟩ : ∃ cur, cur = S.set k (y + ((T : Int) - σ)) := ⟨_, rfl⟩
            rw [← hcur] at HT5 HRES
            have HALL := Lib.hid (show ∀ r, Trim d cur r → NormR c (T : Int) r from fun r hr => by rw [hd] at hr; cases hr; exact HRES.out)
            have hd1 : d ≤ 268435456 := by omega
            clear hd hcell hfr hset hval hcur HRES HAL HSS hown5 CF HOWN hh5 hb5
            go_wp2
            refine wp_region_still_tail 12 (by kernel_rfl) (by kernel_rfl) ?_
            simp only [List.take_succ_cons, List.take_zero, List.drop_succ_cons, List.drop_zero]
            iterate 9 still_step
            still_call (C5.out w5.drew rfl)
            repeat still_step
            refine wpStill_nil ?_
            change wpList _ _ _ _ _ w5.drew
            clear C5
            go_wp2_with fail
            obtain ⟨w6, hw6⟩ : ∃ w6, w6 = (w5.setCell ⟨g, k, none⟩ (.int .i64 (y + (T : Int) - σ))).drew := ⟨_, rfl⟩
            rw [← hw6] at HT5 ⊢
            clear hw6 hcell5 hfr5 hlt hkn hkji hy0 hy1 hSn hSs
            have C6 := Lib.hid (rnSum_any (m := cv) (Rd.of_own HT5.out.own) HT5.out.len hn1 (all_nn14 HT5.out.alike) (by rw [HT5.out.sum]; omega))
            rw [HT5.out.sum] at C6
            refine C6.out.mono ?_
            rintro e w' ⟨rfl, hw⟩
            obtain rfl : _ = w' := hw.symm
            clear C6
            go_wp2
            go_loopw [14] (fun l wq => ∃ (d : Nat) (cur : List Int), l = .int .i64 (d : Int) ∧ d ≤ 268435456 ∧ RTrims w c j T d cur (.slice (some ⟨g, 0, none⟩) j cv) wq ∧ (∀ r, Trim d cur r → NormR c (T : Int) r)) (fun l _ => (intOf l).toNat)
            case atStart => exact ⟨d, cur, by go_num, hd1, HT5.out, HALL.out⟩
            case round =>
              clear HT5 HALL hd1
              obtain ⟨d, cur, rfl, hd, htr, hall⟩ := hrel
              have HTR := Lib.hid htr
              have HALL := Lib.hid hall
              clear htr hall
              cases d with
              | zero =>
                have HRES := Lib.hid (HALL.out cur (.done cur))
                go_wp2
                go_ret2
                exact ⟨g, cv, cur, rfl, HRES.out, HTR.out.own, HTR.out.below⟩
              | succ d =>
                obtain ⟨k, hk⟩ := first_some cur (by have h1 := HTR.out.len; have h2 := HLEN.out; have h3 := HN.out; omega)
                have CG := Lib.hid (rnFirst_at (m := cv) (Rd.of_own HTR.out.own) HTR.out.len hn1 k hk)
                have hkn : k < j := by have := hk.1; rw [HTR.out.len] at this; exact this
                have hkS : k < cur.length := by rw [HTR.out.len]; exact hkn
                have hyd : cur.getD k 0 = cur[k]'hkS := by simp [List.getD_eq_getElem?_getD, hkS]
                have hnn := all_nn14 HTR.out.alike
                have hy1 := le_sum12 hnn hkS
                have hy0 := hnn _ (List.getElem_mem hkS)
                rw [HTR.out.sum] at hy1
                have HALL2 := Lib.hid (show ∀ r, Trim d (cur.set k (cur.getD k 0 - 1)) r → NormR c (T : Int) r from fun r hr => HALL.out r (.more d k cur r hk hr))
                have hcell : wr.cell? ⟨g, k, none⟩ = some (.int .i64 (cur[k]'hkS)) := by
                  rw [HTR.out.own.cellAt k (by omega), zvs_get, List.getElem?_eq_getElem hkS]; rfl
                have hfr := HTR.out.own.frozenAt k
                have HK := Lib.hid hk
                rw [hyd] at HALL2
                obtain ⟨y, hy⟩ : ∃ y, y = cur[k]'hkS := ⟨_, rfl⟩
                rw [← hy] at hcell hy0 hy1 HALL2 hyd
                have HYD := Lib.hid hyd
                have hkni : (k : Int) < (j : Int) := by omega
                have hyT : y ≤ 536870912 := by omega
                have hdp : (0 : Int) < ((d + 1 : Nat) : Int) := by omega
                clear hk hyd hy hkS hnn hy1
                go_wp2_with fail
                refine CG.out.mono ?_
                rintro e w7 ⟨rfl, hh7, hb7⟩
                have hcell7 : w7.cell? ⟨g, k, none⟩ = some (.int .i64 y) := (World.cell?_of_block (by rw [hh7])).trans hcell
                have hfr7 : w7.frozen? ⟨g, k, none⟩ = false := by rw [← hfr]; exact frozen_same hh7 _
                have hnext := (HTR.out.same hh7 hb7).next HN0.out HM.out hgB HK.out
                rw [HYD.out] at hnext
                have HNEXT := Lib.hid hnext
                clear hnext hcell hfr hh7 hb7 CG
                go_wp2
                go_roundw
                case rel => exact ⟨d, cur.set k (y - 1), by go_num, by omega, HNEXT.out, HALL2.out⟩
                case measure => simp [intOf]
          · have hnr := HNR2.out
            simp only [if_neg hlt] at hnr
            obtain ⟨d, hd⟩ : ∃ d : Nat, σ = (T : Int) + (d : Int) := ⟨(σ - T).toNat, by omega⟩
            rw [show (σ - (T : Int)).toNat = d by omega] at hnr
            have HALL := Lib.hid hnr
            have hd1 : d ≤ 268435456 := by omega
            obtain ⟨w6, hw6⟩ : ∃ w6, w6 = wr := ⟨_, rfl⟩
            have HT5 := Lib.hid (show RTrims w c j T d S (.slice (some ⟨g, 0, none⟩) j cv) w6 from ⟨by rw [hw6]; exact HOWN.out, HSL.out, HA.out, by rw [← HSG.out, hd], by rw [hw6]; exact HB.out⟩)
            obtain ⟨cur, hcur⟩ : ∃ cur, cur = S := ⟨_, rfl⟩
            rw [← hcur] at HT5 HALL
            have hq : decide (σ < (T : Int)) = false := decide_eq_false hlt
            rw [← hw6]
            clear hnr hd hw6 hcur C4 HOWN
            go_wp2_with fail
            have C6 := Lib.hid (rnSum_any (m := cv) (Rd.of_own HT5.out.own) HT5.out.len hn1 (all_nn14 HT5.out.alike) (by rw [HT5.out.sum]; omega))
            rw [HT5.out.sum] at C6
            refine C6.out.mono ?_
            rintro e w' ⟨rfl, hw⟩
            obtain rfl : _ = w' := hw.symm
            clear C6
            go_wp2
            go_loopw [14] (fun l wq => ∃ (d : Nat) (cur : List Int), l = .int .i64 (d : Int) ∧ d ≤ 268435456 ∧ RTrims w c j T d cur (.slice (some ⟨g, 0, none⟩) j cv) wq ∧ (∀ r, Trim d cur r → NormR c (T : Int) r)) (fun l _ => (intOf l).toNat)
            case atStart => exact ⟨d, cur, by go_num, hd1, HT5.out, HALL.out⟩
            case round =>
              clear HT5 HALL hd1
              obtain ⟨d, cur, rfl, hd, htr, hall⟩ := hrel
              have HTR := Lib.hid htr
              have HALL := Lib.hid hall
              clear htr hall
              cases d with
              | zero =>
                have HRES := Lib.hid (HALL.out cur (.done cur))
                go_wp2
                go_ret2
                exact ⟨g, cv, cur, rfl, HRES.out, HTR.out.own, HTR.out.below⟩
              | succ d =>
                obtain ⟨k, hk⟩ := first_some cur (by have h1 := HTR.out.len; have h2 := HLEN.out; have h3 := HN.out; omega)
                have CG := Lib.hid (rnFirst_at (m := cv) (Rd.of_own HTR.out.own) HTR.out.len hn1 k hk)
                have hkn : k < j := by have := hk.1; rw [HTR.out.len] at this; exact this
                have hkS : k < cur.length := by rw [HTR.out.len]; exact hkn
                have hyd : cur.getD k 0 = cur[k]'hkS := by simp [List.getD_eq_getElem?_getD, hkS]
                have hnn := all_nn14 HTR.out.alike
                have hy1 := le_sum12 hnn hkS
                have hy0 := hnn _ (List.getElem_mem hkS)
                rw [HTR.out.sum] at hy1
                have HALL2 := Lib.hid (show ∀ r, Trim d (cur.set k (cur.getD k 0 - 1)) r → NormR c (T : Int) r from fun r hr => HALL.out r (.more d k cur r hk hr))
                have hcell : wr.cell? ⟨g, k, none⟩ = some (.int .i64 (cur[k]'hkS)) := by
                  rw [HTR.out.own.cellAt k (by omega), zvs_get, List.getElem?_eq_getElem hkS]; rfl
                have hfr := HTR.out.own.frozenAt k
                have HK := Lib.hid hk
                rw [hyd] at HALL2
                obtain ⟨y, hy⟩ : ∃ y, y = cur[k]'hkS := ⟨_, rfl⟩
                rw [← hy] at hcell hy0 hy1 HALL2 hyd
                have HYD := Lib.hid hyd
                have hkni : (k : Int) < (j : Int) := by omega
                have hyT : y ≤ 536870912 := by omega
                have hdp : (0 : Int) < ((d + 1 : Nat) : Int) := by omega
                clear hk hyd hy hkS hnn hy1
                go_wp2_with fail
                refine CG.out.mono ?_
                rintro e w7 ⟨rfl, hh7, hb7⟩
                have hcell7 : w7.cell? ⟨g, k, none⟩ = some (.int .i64 y) := (World.cell?_of_block (by rw [hh7])).trans hcell
                have hfr7 : w7.frozen? ⟨g, k, none⟩ = false := by rw [← hfr]; exact frozen_same hh7 _
                have hnext := (HTR.out.same hh7 hb7).next HN0.out HM.out hgB HK.out
                rw [HYD.out] at hnext
                have HNEXT := Lib.hid hnext
                clear hnext hcell hfr hh7 hb7 CG
                go_wp2
                go_roundw
                case rel => exact ⟨d, cur.set k (y - 1), by go_num, by omega, HNEXT.out, HALL2.out⟩
                case measure => simp [intOf]
end
end Go.Proofs.YtflcmmeoppdhdaaGreat
namespace Go.Proofs.YtflcmmeoppdhdaaGreat

/-- Whose each number is, of the first k letters' ones. -/
def sRow (c : List Int) : Nat → List Nat
  | 0 => []
  | k + 1 => sRow c k ++ List.replicate (c.getD k 0).toNat k
theorem sRow_len {c : List Int} (hc : ∀ x ∈ c, 0 ≤ x) : ∀ k, k ≤ c.length → ((sRow c k).length : Int) = fPre c k := by
  intro k
  induction k with
  | zero => intro _; simp [sRow, fPre_zero]
  | succ k ih =>
    intro hk
    have h1 := ih (by omega)
    have h2 := hc _ (List.getElem_mem (show k < c.length by omega))
    have e : c.getD k 0 = c[k] := by simp [List.getD_eq_getElem?_getD, show k < c.length by omega]
    rw [fPre_succ c k (by omega), ← h1]
    simp only [sRow, List.length_append, List.length_replicate, e]
    omega
end Go.Proofs.YtflcmmeoppdhdaaGreat
namespace Go.Proofs.YtflcmmeoppdhdaaGreat
open Go.RowKit Go.Sort Go.Shelf

/-- A share that may not be. -/
def sBad (x : Int) : Bool := decide (x < 0)
theorem sBad_not {c : List Int} (h : c.any sBad = false) : ∀ x ∈ c, 0 ≤ x := by
  intro x hx
  have := List.any_eq_false.1 h x hx
  simp [sBad] at this
  exact this
section
variable {w : World} {B : Nat} {A : Option Addr} {n m : Nat} {c : List Int}
set_option maxRecDepth 100000 in
theorem slotWrong_any (x : Int) (w : World) : Calls Tryz.prog 122 #[.int .i64 x] w fun e w' => e = .returned (.bool (sBad x)) ∧ w' = w := by
  unfold sBad
  go_enter Tryz.func122, Tryz.ntmps122
  go_wp2
  go_ret
  exact ⟨rfl, rfl⟩
theorem slotBad_any (hr : Rd w B A (zvs c)) (hn : c.length = n) (hn1 : n ≤ 4096) :
    Calls Tryz.prog 112 #[.slice A n m, .func (.func 122) #[] #[]] w fun e w' => e = .returned (.bool (c.any sBad)) ∧ w' = w :=
  contains_any 122 sBad (enters_of Tryz.func122 (by kernel_rfl) rfl) (fun x W => slotWrong_any x W) hr hn hn1
set_option maxRecDepth 100000 in
theorem slotFill_any (T : Nat) (hT : T ≤ 65536) (hr : Rd w B A (zvs c)) (hn : c.length = n) (hn1 : n ≤ 4096) (hnn : ∀ x ∈ c, 0 ≤ x) (o : Bool) (ho : o = true ↔ c.sum = (T : Int)) :
    Calls Tryz.prog 123 #[.slice A n m, .int .i64 (T : Int)] w fun e w' => e = .returned (.bool o) ∧ w' = w := by
  have HR := Lib.hid hr
  have HC := Lib.hid hn
  have HN := Lib.hid hnn
  have HO := Lib.hid ho
  clear hr hn hnn ho
  go_enter Tryz.func123, Tryz.ntmps123
  go_wp2
  go_loop [1, 9] (fun s i => ∃ (k : Nat) (z : Int), k ≤ n ∧ i = .int .i64 (k : Int) ∧ s = .int .i64 z ∧ 0 ≤ z ∧ z ≤ (T : Int) ∧ z = (T : Int) - fPre c k) (fun _ i => n - (intOf i).toNat)
  case atStart => exact ⟨0, T, Nat.zero_le _, rfl, rfl, by omega, Int.le_refl _, by rw [fPre_zero, Int.sub_zero]⟩
  case round =>
    obtain ⟨k, z, hk, rfl, rfl, hz0, hz1, hz⟩ := hrel
    have HZ := Lib.hid hz
    clear hz
    by_cases hlt : k < n
    · have hkc : k < c.length := by have := HC.out; omega
      obtain ⟨b, off, rfl, -, hcell⟩ := cell_of_rd HR.out hkc
      have hs := fPre_succ c k hkc
      have g1 := fPre_le HN.out (k + 1)
      have g2 := HN.out _ (List.getElem_mem hkc)
      obtain ⟨x, hx⟩ : ∃ x, x = c[k]'hkc := ⟨_, rfl⟩
      rw [← hx] at hcell hs g2
      have hki : (k : Int) < (n : Int) := by omega
      by_cases hg : z < x
      · have hof : o = false := by
          cases o with
          | false => rfl
          | true => have := HO.out.1 rfl; have := HZ.out; omega
        subst hof
        clear hs g1 hx
        go_wp2
        go_ret
        exact ⟨rfl, rfl⟩
      · have HZ2 := Lib.hid (show z - x = (T : Int) - fPre c (k + 1) by have := HZ.out; omega)
        clear hs g1 hx
        go_wp2
        go_round
        case rel => exact ⟨k + 1, z - x, by omega, by go_num, rfl, by omega, by omega, HZ2.out⟩
        case measure => simp [intOf]; omega
    · obtain rfl : k = n := by omega
      have h := HZ.out
      rw [fPre_most c (by have := HC.out; omega)] at h
      have ho2 : (z == 0) = o := by
        cases o with
        | true => have := HO.out.1 rfl; rw [beq_iff_eq]; omega
        | false =>
          rw [beq_eq_false_iff_ne]
          intro e
          have := HO.out.2 (by omega)
          cases this
      clear h HZ
      go_wp2
      go_ret
      exact ⟨rfl, rfl⟩
set_option maxRecDepth 100000 in
set_option maxHeartbeats 1000000 in
theorem rsOf_at (k : Nat) (hr : Rd w B A (zvs c)) (hn : c.length = n) (hn1 : n ≤ 4096) (hnn : ∀ x ∈ c, 0 ≤ x) (hs : c.sum ≤ 65536) (hk : k < c.length) :
    Calls Tryz.prog 31 #[.slice A n m, .int .i64 (k : Int)] w fun e w' => e = .returned (.tuple #[.int .i64 (fPre c k), .int .i64 (c[k]'hk)]) ∧ Below w.heap.size w w' := by
  have HR := Lib.hid hr
  have HC := Lib.hid hn
  have HN := Lib.hid hnn
  have HS := Lib.hid hs
  have hkn : (k : Int) < (n : Int) := by omega
  obtain ⟨b, off, rfl, -, hck⟩ := cell_of_rd hr hk
  obtain ⟨y, hy⟩ : ∃ y, y = c[k]'hk := ⟨_, rfl⟩
  rw [← hy] at hck ⊢
  clear hr hn hnn hs hy
  go_enter Tryz.func31, Tryz.ntmps31
  go_wp2
  go_loop [6, 7] (fun s i => ∃ j : Nat, j ≤ k ∧ i = .int .i64 (j : Int) ∧ s = .int .i64 (fPre c j)) (fun _ i => k - (intOf i).toNat)
  case atStart => exact ⟨0, Nat.zero_le _, rfl, by rw [fPre_zero]⟩
  case round =>
    obtain ⟨j, hj, rfl, rfl⟩ := hrel
    by_cases hlt : j < k
    · have hjc : j < c.length := by have := HC.out; omega
      have hcj := HR.out j (.int .i64 (c[j]'hjc)) (by rw [zvs_get, List.getElem?_eq_getElem hjc]; rfl)
      obtain ⟨b', off', he, -, hcell⟩ := hcj
      injection he with he
      injection he with e1 e2
      subst e1 e2
      have hss := fPre_succ c j hjc
      have g0 := fPre_nn HN.out j
      have g1 := fPre_le HN.out (j + 1)
      have g2 := HN.out _ (List.getElem_mem hjc)
      have g3 := HS.out
      obtain ⟨x, hx⟩ : ∃ x, x = c[j]'hjc := ⟨_, rfl⟩
      rw [← hx] at hcell hss g2
      obtain ⟨s, hss2⟩ : ∃ s, s = fPre c j := ⟨_, rfl⟩
      rw [← hss2] at hss g0 ⊢
      have HSS := Lib.hid hss
      have g4 : s + x ≤ 65536 := by omega
      have hji : (j : Int) < (k : Int) := by omega
      have hjn : (j : Int) < (n : Int) := by omega
      clear hss g1 g3 hx hss2 hck
      go_wp2
      go_round
      case rel => exact ⟨j + 1, by omega, by go_num, by rw [HSS.out]⟩
      case measure => simp [intOf]; omega
    · obtain rfl : j = k := by omega
      go_wp2
      refine wp_region_still_lit (by kernel_rfl) (by kernel_rfl) ?_
      repeat still_step
      refine wpStill_nil ?_
      change Exit.then _ _ _ _ w.drew
      go_wp2
      go_ret2
      exact ⟨rfl, (Below.refl _ _).drew⟩
end
end Go.Proofs.YtflcmmeoppdhdaaGreat
namespace Go.Proofs.YtflcmmeoppdhdaaGreat
open Go.RowKit Go.Sort

theorem info_u8r : (Tryz.prog.info? 5).map (fun i => (i.zero, i.size, i.bytes)) = some (some (.int .u8 0), 1, 1) := by kernel_rfl
/-- Numbers as bytes. -/
def u8s (o : List Nat) : List UInt8 := o.map UInt8.ofNat
theorem u8s_length (o : List Nat) : (u8s o).length = o.length := by simp [u8s]
/-- How long a slice is. -/
def lenR : Value → Nat
  | .slice _ n _ => n
  | _ => 0
theorem bvs_u8s (o : List Nat) {c : Nat} (h : c < 256) : bvs (u8s (o ++ [c])) = bvs (u8s o) ++ [Value.int .u8 (c : Int)] := by
  have h2 : (UInt8.ofNat c).toNat = c := by simp [UInt8.toNat_ofNat']; omega
  simp [u8s, bvs, h2]
theorem u8s_append (a b : List Nat) : u8s (a ++ b) = u8s a ++ u8s b := by simp [u8s]
/-- A new row of bytes. -/
def NewFour (B : Nat) (l : List Nat) (v : Value) (w : World) : Prop := ∃ g, v = .slice (some ⟨g, 0, none⟩) l.length l.length ∧ B ≤ g ∧ Blk w g 5 (l.map fun (b : Nat) => Value.int .u8 (b : Int))
theorem NewFour.grow (B : Nat) (l : List Nat) (v : Value) (w w' : World) (h : NewFour B l v w) (hb : Below w.heap.size w w') : NewFour B l v w' := by
  obtain ⟨g, h1, h2, h3⟩ := h
  exact ⟨g, h1, h2, h3.grow hb⟩
/-- A row of one's own, of such bytes. -/
def OwnB (base : Nat) (l : List Nat) (v : Value) (w : World) : Prop := w.ownsRow base 5 1 v l.length (bvs (u8s l))
theorem OwnB.grow (base : Nat) (l : List Nat) (v : Value) (w w' : World) (h : OwnB base l v w) (hb : Below w.heap.size w w') : OwnB base l v w' := own_kept h hb
theorem u8s_four (o : List Nat) {x y z t : Nat} (hx : x < 256) (hy : y < 256) (hz : z < 256) (ht : t < 256) : bvs (u8s (o ++ [x, y, z, t])) = bvs (u8s o) ++ [Value.int .u8 (x : Int), Value.int .u8 (y : Int), Value.int .u8 (z : Int), Value.int .u8 (t : Int)] := by
  rw [show o ++ [x, y, z, t] = o ++ [x] ++ [y] ++ [z] ++ [t] by simp, bvs_u8s _ ht, bvs_u8s _ hz, bvs_u8s _ hy, bvs_u8s _ hx]
  simp
end Go.Proofs.YtflcmmeoppdhdaaGreat
