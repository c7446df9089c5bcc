/- Laws of layer 5. -/
import Derived.Test.YtgfbdopeepppkaaDeltaKnown
import Derived.Test.YtgfbdopeepppkaaArg2
namespace Go.Proofs.Ytgfbdopeepppkaa
open Go.RowKit

theorem dDiff_cells (W : Int) (ws : List Nat) (v : Value) (w : World) (h : IsCells (wvs ws) v w) (hb : ws.length ≤ 100000) (hlt64 : ∀ x ∈ ws, x < 18446744073709551616) :
    Calls Try.prog 10 #[v, .int .i64 W] w (NewW w (ofW diffW W ws)) := by
  obtain ⟨A, c, rfl, _, hr⟩ := h
  rw [wvs_length]
  exact deltaDiff_any W A ws.length c ws w hr rfl (by omega) hlt64
theorem dSum_cells (W : Int) (ws : List Nat) (v : Value) (w : World) (h : IsCells (wvs ws) v w) (hb : ws.length ≤ 100000) (hlt64 : ∀ x ∈ ws, x < 18446744073709551616) :
    Calls Try.prog 11 #[v, .int .i64 W] w (NewW w (ofW sumW W ws)) := by
  obtain ⟨A, c, rfl, _, hr⟩ := h
  rw [wvs_length]
  exact deltaSum_any W A ws.length c ws w hr rfl (by omega) hlt64
theorem dSecond_cells (W : Int) (ws : List Nat) (v : Value) (w : World) (h : IsCells (wvs ws) v w) (hb : ws.length ≤ 100000) (hlt64 : ∀ x ∈ ws, x < 18446744073709551616) :
    Calls Try.prog 12 #[v, .int .i64 W] w (NewW w (ofW secondW W ws)) := by
  obtain ⟨A, c, rfl, _, hr⟩ := h
  rw [wvs_length]
  exact deltaSecond_any W A ws.length c ws w hr rfl (by omega) hlt64
theorem dTwice_cells (W : Int) (ws : List Nat) (v : Value) (w : World) (h : IsCells (wvs ws) v w) (hb : ws.length ≤ 100000) (hlt64 : ∀ x ∈ ws, x < 18446744073709551616) :
    Calls Try.prog 13 #[v, .int .i64 W] w (NewW w (ofW twiceW W ws)) := by
  obtain ⟨A, c, rfl, _, hr⟩ := h
  rw [wvs_length]
  exact deltaTwice_any W A ws.length c ws w hr rfl (by omega) hlt64
theorem rDiff_cells (W : Int) (ws : List Nat) (v : Value) (w : World) (h : IsCells (wvs ws) v w) (hb : ws.length ≤ 100000) (hlt64 : ∀ x ∈ ws, x < 18446744073709551616) :
    Calls Try.prog 14 #[v, .int .i64 W] w (NewW w (ofW diffW W ws)) := by
  obtain ⟨A, c, rfl, _, hr⟩ := h
  rw [wvs_length]
  exact refDiff_any W A ws.length c ws w hr rfl (by omega) hlt64
theorem rSum_cells (W : Int) (ws : List Nat) (v : Value) (w : World) (h : IsCells (wvs ws) v w) (hb : ws.length ≤ 100000) (hlt64 : ∀ x ∈ ws, x < 18446744073709551616) :
    Calls Try.prog 15 #[v, .int .i64 W] w (NewW w (ofW sumW W ws)) := by
  obtain ⟨A, c, rfl, _, hr⟩ := h
  rw [wvs_length]
  exact refSum_any W A ws.length c ws w hr rfl (by omega) hlt64
theorem secondW_len (W : Nat) (l : List Nat) : (secondW W l).length = l.length := by unfold secondW; rw [diffW_len, diffW_len]
theorem twiceW_len (W : Nat) (l : List Nat) : (twiceW W l).length = l.length := by unfold twiceW; rw [sumW_len, sumW_len]
theorem secondW_lt (W : Nat) (l : List Nat) : ∀ x ∈ secondW W l, x < 256 ^ W := diffW_lt W _
theorem twiceW_lt (W : Nat) (l : List Nat) : ∀ x ∈ twiceW W l, x < 256 ^ W := sumW_lt W _

set_option maxHeartbeats 1000000 in
set_option maxRecDepth 100000 in
theorem deltaDoes_core (A : Option Addr) (c : Nat) (l : List Nat) (W : Int) (w : World) (hr : Rd w w.heap.size A (wvs l)) (hnc : l.length ≤ c) (hlt64 : ∀ x ∈ l, x < 18446744073709551616) (hs : (l.length : Int) ≤ 100) :
    Calls Try.prog 3 #[.slice A l.length c, .int .i64 W] w (Yes w) := by
  obtain ⟨i0, hi, hz0, hz1, hz2⟩ := info_parts info_u64r
  have hl64 : l.length ≤ 100000 := by omega
  have HQ := Lib.hid hlt64
  have hnews : (wvs l).length = l.length * 1 := by rw [wvs_length, Nat.mul_one]
  have HNEWS := Lib.hid hnews
  have hL := cells_row hr rfl hnc
  clear hlt64 hnews
  go_enter Try.func3, Try.ntmps3
  go_wp2_with ((with_reducible show wpList _ _ _ (({ dst := some 18, op := _, type := _, pos := _, after := _, guard := _ } : Oper) :: _) _ _); go_must (refine wpList_app rfl (.tmp 16) (.tmp 17) 22 rfl w.heap.size 28 i0 (.int .u64 0) 1 8 Try.underlying22 hi hz0 hz1 hz2 rfl (by decide) _ 0 [] rfl (World.ownsRow_made w #[] 0 (Nat.le_refl _) (Nat.zero_le _) rfl) w.heap.size A l.length c (wvs l) rfl (hr.alloc (Nat.le_refl _) _) HNEWS.out (wvs_one _) (by simp only [maxLen]; omega) (by omega) (by simp) ?_; intro v2 w2 hown2 hg2; rw [Nat.zero_add, List.nil_append] at hown2; have hb2 : Below w.heap.size w w2 := ((Below.refl _ _).alloc (Nat.le_refl _) _).grown hg2 (by simp) (own_block (World.ownsRow_made (e := 28) (size := 1) w #[] 0 (Nat.le_refl _) (Nat.zero_le _) rfl)); clear hg2))
  have hb2m := hb2
  have HL_0 := Lib.hid (hL.grow hb2m)
  have HO_0 := Lib.hid (cells_of_own hown2)
  have HBel_0 := Lib.hid (hb2)
  clear hL hb2m hown2 hb2 hr
  go_wp2_with fail
  refine (dDiff_cells W l _ _ HO_0.out hl64 HQ.out).mono ?_
  rintro e w1 ⟨vA, rfl, hA, hb⟩
  have HA_1 := Lib.hid hA
  clear hA
  have HL_1 := Lib.hid (HL_0.out.grow hb)
  have HO_1 := Lib.hid (HO_0.out.grow hb)
  have HBel_1 := Lib.hid (HBel_0.out.trans (hb.mono HBel_0.out.size))
  clear hb HL_0 HO_0 HBel_0
  go_wp2_with fail
  refine (dSum_cells W l _ _ HO_1.out hl64 HQ.out).mono ?_
  rintro e w2 ⟨vB, rfl, hB, hb⟩
  have HB_2 := Lib.hid hB
  clear hB
  have HL_2 := Lib.hid (HL_1.out.grow hb)
  have HO_2 := Lib.hid (HO_1.out.grow hb)
  have HA_2 := Lib.hid (HA_1.out.grow hb)
  have HBel_2 := Lib.hid (HBel_1.out.trans (hb.mono HBel_1.out.size))
  clear hb HL_1 HO_1 HA_1 HBel_1
  go_wp2_with fail
  refine (dSecond_cells W l _ _ HO_2.out hl64 HQ.out).mono ?_
  rintro e w3 ⟨vC, rfl, hC, hb⟩
  have HC_3 := Lib.hid hC
  clear hC
  have HL_3 := Lib.hid (HL_2.out.grow hb)
  have HO_3 := Lib.hid (HO_2.out.grow hb)
  have HA_3 := Lib.hid (HA_2.out.grow hb)
  have HB_3 := Lib.hid (HB_2.out.grow hb)
  have HBel_3 := Lib.hid (HBel_2.out.trans (hb.mono HBel_2.out.size))
  clear hb HL_2 HO_2 HA_2 HB_2 HBel_2
  go_wp2_with fail
  refine (dTwice_cells W l _ _ HO_3.out hl64 HQ.out).mono ?_
  rintro e w4 ⟨vD, rfl, hD, hb⟩
  have HD_4 := Lib.hid hD
  clear hD
  have HL_4 := Lib.hid (HL_3.out.grow hb)
  have HO_4 := Lib.hid (HO_3.out.grow hb)
  have HA_4 := Lib.hid (HA_3.out.grow hb)
  have HB_4 := Lib.hid (HB_3.out.grow hb)
  have HC_4 := Lib.hid (HC_3.out.grow hb)
  have HBel_4 := Lib.hid (HBel_3.out.trans (hb.mono HBel_3.out.size))
  clear hb HL_3 HO_3 HA_3 HB_3 HC_3 HBel_3
  go_wp2_with fail
  refine (rDiff_cells W l _ _ HL_4.out hl64 HQ.out).mono ?_
  rintro e w5 ⟨vX, rfl, hX, hb⟩
  have HX_5 := Lib.hid hX
  clear hX
  have HL_5 := Lib.hid (HL_4.out.grow hb)
  have HO_5 := Lib.hid (HO_4.out.grow hb)
  have HA_5 := Lib.hid (HA_4.out.grow hb)
  have HB_5 := Lib.hid (HB_4.out.grow hb)
  have HC_5 := Lib.hid (HC_4.out.grow hb)
  have HD_5 := Lib.hid (HD_4.out.grow hb)
  have HBel_5 := Lib.hid (HBel_4.out.trans (hb.mono HBel_4.out.size))
  clear hb HL_4 HO_4 HA_4 HB_4 HC_4 HD_4 HBel_4
  go_wp2_with fail
  refine (rSum_cells W l _ _ HL_5.out hl64 HQ.out).mono ?_
  rintro e w6 ⟨vY, rfl, hY, hb⟩
  have HY_6 := Lib.hid hY
  clear hY
  have HL_6 := Lib.hid (HL_5.out.grow hb)
  have HO_6 := Lib.hid (HO_5.out.grow hb)
  have HA_6 := Lib.hid (HA_5.out.grow hb)
  have HB_6 := Lib.hid (HB_5.out.grow hb)
  have HC_6 := Lib.hid (HC_5.out.grow hb)
  have HD_6 := Lib.hid (HD_5.out.grow hb)
  have HX_6 := Lib.hid (HX_5.out.grow hb)
  have HBel_6 := Lib.hid (HBel_5.out.trans (hb.mono HBel_5.out.size))
  clear hb HL_5 HO_5 HA_5 HB_5 HC_5 HD_5 HX_5 HBel_5
  go_wp2_with fail
  refine (refSame_yes _ (ofW_small diffW_len W l _ hl64) _ _ _ HA_6.out HX_6.out).mono ?_
  rintro e w7 ⟨rfl, hb⟩
  clear HA_6
  have HL_7 := Lib.hid (HL_6.out.grow hb)
  have HO_7 := Lib.hid (HO_6.out.grow hb)
  have HB_7 := Lib.hid (HB_6.out.grow hb)
  have HC_7 := Lib.hid (HC_6.out.grow hb)
  have HD_7 := Lib.hid (HD_6.out.grow hb)
  have HX_7 := Lib.hid (HX_6.out.grow hb)
  have HY_7 := Lib.hid (HY_6.out.grow hb)
  have HBel_7 := Lib.hid (HBel_6.out.trans (hb.mono HBel_6.out.size))
  clear hb HL_6 HO_6 HB_6 HC_6 HD_6 HX_6 HY_6 HBel_6
  go_wp2_with fail
  refine (refSame_yes _ (ofW_small sumW_len W l _ hl64) _ _ _ HB_7.out HY_7.out).mono ?_
  rintro e w8 ⟨rfl, hb⟩
  clear HB_7
  have HL_8 := Lib.hid (HL_7.out.grow hb)
  have HO_8 := Lib.hid (HO_7.out.grow hb)
  have HC_8 := Lib.hid (HC_7.out.grow hb)
  have HD_8 := Lib.hid (HD_7.out.grow hb)
  have HX_8 := Lib.hid (HX_7.out.grow hb)
  have HY_8 := Lib.hid (HY_7.out.grow hb)
  have HBel_8 := Lib.hid (HBel_7.out.trans (hb.mono HBel_7.out.size))
  clear hb HL_7 HO_7 HC_7 HD_7 HX_7 HY_7 HBel_7
  go_wp2_with fail
  refine (rDiff_cells W (ofW diffW W l) _ _ HX_8.out (ofW_small diffW_len W l _ hl64) (ofW_lt diffW_lt W l)).mono ?_
  rintro e w9 ⟨vE, rfl, hE, hb⟩
  clear HX_8
  have HE_9 := Lib.hid hE
  clear hE
  have HL_9 := Lib.hid (HL_8.out.grow hb)
  have HO_9 := Lib.hid (HO_8.out.grow hb)
  have HC_9 := Lib.hid (HC_8.out.grow hb)
  have HD_9 := Lib.hid (HD_8.out.grow hb)
  have HY_9 := Lib.hid (HY_8.out.grow hb)
  have HBel_9 := Lib.hid (HBel_8.out.trans (hb.mono HBel_8.out.size))
  clear hb HL_8 HO_8 HC_8 HD_8 HY_8 HBel_8
  rw [ofW_second] at HE_9
  go_wp2_with fail
  refine (refSame_yes _ (ofW_small secondW_len W l _ hl64) _ _ _ HC_9.out HE_9.out).mono ?_
  rintro e w10 ⟨rfl, hb⟩
  clear HC_9
  clear HE_9
  have HL_10 := Lib.hid (HL_9.out.grow hb)
  have HO_10 := Lib.hid (HO_9.out.grow hb)
  have HD_10 := Lib.hid (HD_9.out.grow hb)
  have HY_10 := Lib.hid (HY_9.out.grow hb)
  have HBel_10 := Lib.hid (HBel_9.out.trans (hb.mono HBel_9.out.size))
  clear hb HL_9 HO_9 HD_9 HY_9 HBel_9
  go_wp2_with fail
  refine (rSum_cells W (ofW sumW W l) _ _ HY_10.out (ofW_small sumW_len W l _ hl64) (ofW_lt sumW_lt W l)).mono ?_
  rintro e w11 ⟨vF, rfl, hF, hb⟩
  clear HY_10
  have HF_11 := Lib.hid hF
  clear hF
  have HL_11 := Lib.hid (HL_10.out.grow hb)
  have HO_11 := Lib.hid (HO_10.out.grow hb)
  have HD_11 := Lib.hid (HD_10.out.grow hb)
  have HBel_11 := Lib.hid (HBel_10.out.trans (hb.mono HBel_10.out.size))
  clear hb HL_10 HO_10 HD_10 HBel_10
  rw [ofW_twice] at HF_11
  go_wp2_with fail
  refine (refSame_yes _ (ofW_small twiceW_len W l _ hl64) _ _ _ HD_11.out HF_11.out).mono ?_
  rintro e w12 ⟨rfl, hb⟩
  clear HD_11
  clear HF_11
  have HL_12 := Lib.hid (HL_11.out.grow hb)
  have HO_12 := Lib.hid (HO_11.out.grow hb)
  have HBel_12 := Lib.hid (HBel_11.out.trans (hb.mono HBel_11.out.size))
  clear hb HL_11 HO_11 HBel_11
  go_wp2_with fail
  refine (refSame_yes _ hl64 _ _ _ HO_12.out HL_12.out).mono ?_
  rintro e w13 ⟨rfl, hb⟩
  clear HO_12
  clear HL_12
  have HBel_13 := Lib.hid (HBel_12.out.trans (hb.mono HBel_12.out.size))
  clear hb HBel_12
  go_wp2_with fail
  refine (deltaKnown_any _).mono ?_
  rintro e w14 ⟨rfl, hb⟩
  have HBel_14 := Lib.hid (HBel_13.out.trans (hb.mono HBel_13.out.size))
  clear hb HBel_13
  go_wp2
  go_ret
  exact ⟨rfl, HBel_14.out⟩
theorem deltaDoes_law (A : Option Addr) (n c : Nat) (l : List Nat) (W : Int) (w : World) (hr : Rd w w.heap.size A (wvs l)) (hn : l.length = n) (hnc : n ≤ c) (hlt64 : ∀ x ∈ l, x < 18446744073709551616) :
    Calls Try.prog 3 #[.slice A n c, .int .i64 W] w (Yes w) := by
  subst hn
  by_cases hs : (l.length : Int) ≤ 100
  · exact deltaDoes_core A c l W w hr hnc hlt64 hs
  · clear hlt64 hr
    go_enter Try.func3, Try.ntmps3
    go_wp2_with (go_at_call 9; go_must (refine (deltaKnown_any _).mono ?_; rintro e w' ⟨rfl, hb⟩))
    go_ret
    exact ⟨rfl, hb⟩
set_option maxHeartbeats 1000000 in
set_option maxRecDepth 100000 in
theorem deltaBack_core (V : Nat) (hV : IsW V) (A : Option Addr) (c : Nat) (l : List Nat) (u : Nat) (w : World) (hr : Rd w w.heap.size A (wvs l)) (hnc : l.length ≤ c) (hlt64 : ∀ x ∈ l, x < 18446744073709551616) (hs : (l.length : Int) ≤ 200) (hw : wrap64 (2 ^ (u % 4)) = (V : Int)) :
    Calls Try.prog 4 #[.slice A l.length c, .int .u8 (u : Int)] w (Yes w) := by
  have hl64 : l.length ≤ 100000 := by omega
  have HQ := Lib.hid hlt64
  have hL := cells_row hr rfl hnc
  clear hlt64
  go_enter Try.func4, Try.ntmps4
  go_wp2_with fail
  simp only [hw]
  clear hw hr
  have HL_0 := Lib.hid (hL)
  have HBel_0 := Lib.hid (Below.refl w.heap.size w)
  clear hL
  go_wp2_with fail
  refine (rFit_cells V hV l _ _ HL_0.out hl64 HQ.out).mono ?_
  rintro e w1 ⟨vF, rfl, hF, hb⟩
  have HF_1 := Lib.hid hF
  clear hF
  have HL_1 := Lib.hid (HL_0.out.grow hb)
  have HBel_1 := Lib.hid (HBel_0.out.trans (hb.mono HBel_0.out.size))
  clear hb HL_0 HBel_0
  go_wp2_with fail
  refine (dDiff_cells (V : Int) l _ _ HL_1.out hl64 HQ.out).mono ?_
  rintro e w2 ⟨vX, rfl, hX, hb⟩
  have HX_2 := Lib.hid hX
  clear hX
  have HL_2 := Lib.hid (HL_1.out.grow hb)
  have HF_2 := Lib.hid (HF_1.out.grow hb)
  have HBel_2 := Lib.hid (HBel_1.out.trans (hb.mono HBel_1.out.size))
  clear hb HL_1 HF_1 HBel_1
  rw [ofW_of hV] at HX_2
  go_wp2_with fail
  refine (dSum_cells (V : Int) (diffW V l) _ _ HX_2.out (by rw [diffW_len]; exact hl64) (lt_64 hV (diffW_lt V l))).mono ?_
  rintro e w3 ⟨vY, rfl, hY, hb⟩
  clear HX_2
  have HY_3 := Lib.hid hY
  clear hY
  have HL_3 := Lib.hid (HL_2.out.grow hb)
  have HF_3 := Lib.hid (HF_2.out.grow hb)
  have HBel_3 := Lib.hid (HBel_2.out.trans (hb.mono HBel_2.out.size))
  clear hb HL_2 HF_2 HBel_2
  rw [ofW_of hV, sum_diff hV l HQ.out, ← fitW] at HY_3
  go_wp2_with fail
  refine (refSame_yes _ (by rw [fitW_len]; exact hl64) _ _ _ HY_3.out HF_3.out).mono ?_
  rintro e w4 ⟨rfl, hb⟩
  clear HY_3
  have HL_4 := Lib.hid (HL_3.out.grow hb)
  have HF_4 := Lib.hid (HF_3.out.grow hb)
  have HBel_4 := Lib.hid (HBel_3.out.trans (hb.mono HBel_3.out.size))
  clear hb HL_3 HF_3 HBel_3
  go_wp2_with fail
  refine (dSum_cells (V : Int) l _ _ HL_4.out hl64 HQ.out).mono ?_
  rintro e w5 ⟨vX, rfl, hX, hb⟩
  have HX_5 := Lib.hid hX
  clear hX
  have HL_5 := Lib.hid (HL_4.out.grow hb)
  have HF_5 := Lib.hid (HF_4.out.grow hb)
  have HBel_5 := Lib.hid (HBel_4.out.trans (hb.mono HBel_4.out.size))
  clear hb HL_4 HF_4 HBel_4
  rw [ofW_of hV] at HX_5
  go_wp2_with fail
  refine (dDiff_cells (V : Int) (sumW V l) _ _ HX_5.out (by rw [sumW_len]; exact hl64) (lt_64 hV (sumW_lt V l))).mono ?_
  rintro e w6 ⟨vY, rfl, hY, hb⟩
  clear HX_5
  have HY_6 := Lib.hid hY
  clear hY
  have HL_6 := Lib.hid (HL_5.out.grow hb)
  have HF_6 := Lib.hid (HF_5.out.grow hb)
  have HBel_6 := Lib.hid (HBel_5.out.trans (hb.mono HBel_5.out.size))
  clear hb HL_5 HF_5 HBel_5
  rw [ofW_of hV, diff_sum hV l, ← fitW] at HY_6
  go_wp2_with fail
  refine (refSame_yes _ (by rw [fitW_len]; exact hl64) _ _ _ HY_6.out HF_6.out).mono ?_
  rintro e w7 ⟨rfl, hb⟩
  clear HY_6
  have HL_7 := Lib.hid (HL_6.out.grow hb)
  have HF_7 := Lib.hid (HF_6.out.grow hb)
  have HBel_7 := Lib.hid (HBel_6.out.trans (hb.mono HBel_6.out.size))
  clear hb HL_6 HF_6 HBel_6
  go_wp2_with fail
  refine (dSecond_cells (V : Int) l _ _ HL_7.out hl64 HQ.out).mono ?_
  rintro e w8 ⟨vX, rfl, hX, hb⟩
  have HX_8 := Lib.hid hX
  clear hX
  have HL_8 := Lib.hid (HL_7.out.grow hb)
  have HF_8 := Lib.hid (HF_7.out.grow hb)
  have HBel_8 := Lib.hid (HBel_7.out.trans (hb.mono HBel_7.out.size))
  clear hb HL_7 HF_7 HBel_7
  rw [ofW_of hV] at HX_8
  go_wp2_with fail
  refine (dTwice_cells (V : Int) (secondW V l) _ _ HX_8.out (by rw [secondW_len]; exact hl64) (lt_64 hV (secondW_lt V l))).mono ?_
  rintro e w9 ⟨vY, rfl, hY, hb⟩
  clear HX_8
  have HY_9 := Lib.hid hY
  clear hY
  have HL_9 := Lib.hid (HL_8.out.grow hb)
  have HF_9 := Lib.hid (HF_8.out.grow hb)
  have HBel_9 := Lib.hid (HBel_8.out.trans (hb.mono HBel_8.out.size))
  clear hb HL_8 HF_8 HBel_8
  rw [ofW_of hV, twice_second hV l HQ.out, ← fitW] at HY_9
  go_wp2_with fail
  refine (refSame_yes _ (by rw [fitW_len]; exact hl64) _ _ _ HY_9.out HF_9.out).mono ?_
  rintro e w10 ⟨rfl, hb⟩
  clear HY_9
  have HL_10 := Lib.hid (HL_9.out.grow hb)
  have HF_10 := Lib.hid (HF_9.out.grow hb)
  have HBel_10 := Lib.hid (HBel_9.out.trans (hb.mono HBel_9.out.size))
  clear hb HL_9 HF_9 HBel_9
  go_wp2_with fail
  refine (dTwice_cells (V : Int) l _ _ HL_10.out hl64 HQ.out).mono ?_
  rintro e w11 ⟨vX, rfl, hX, hb⟩
  have HX_11 := Lib.hid hX
  clear hX
  have HL_11 := Lib.hid (HL_10.out.grow hb)
  have HF_11 := Lib.hid (HF_10.out.grow hb)
  have HBel_11 := Lib.hid (HBel_10.out.trans (hb.mono HBel_10.out.size))
  clear hb HL_10 HF_10 HBel_10
  rw [ofW_of hV] at HX_11
  go_wp2_with fail
  refine (dSecond_cells (V : Int) (twiceW V l) _ _ HX_11.out (by rw [twiceW_len]; exact hl64) (lt_64 hV (twiceW_lt V l))).mono ?_
  rintro e w12 ⟨vY, rfl, hY, hb⟩
  clear HX_11
  have HY_12 := Lib.hid hY
  clear hY
  have HL_12 := Lib.hid (HL_11.out.grow hb)
  have HF_12 := Lib.hid (HF_11.out.grow hb)
  have HBel_12 := Lib.hid (HBel_11.out.trans (hb.mono HBel_11.out.size))
  clear hb HL_11 HF_11 HBel_11
  rw [ofW_of hV, second_twice hV l, ← fitW] at HY_12
  go_wp2_with fail
  refine (refSame_yes _ (by rw [fitW_len]; exact hl64) _ _ _ HY_12.out HF_12.out).mono ?_
  rintro e w13 ⟨rfl, hb⟩
  clear HY_12
  have HL_13 := Lib.hid (HL_12.out.grow hb)
  have HF_13 := Lib.hid (HF_12.out.grow hb)
  have HBel_13 := Lib.hid (HBel_12.out.trans (hb.mono HBel_12.out.size))
  clear hb HL_12 HF_12 HBel_12
  go_wp2_with fail
  refine (deltaKnown_any _).mono ?_
  rintro e w14 ⟨rfl, hb⟩
  have HL_14 := Lib.hid (HL_13.out.grow hb)
  have HF_14 := Lib.hid (HF_13.out.grow hb)
  have HBel_14 := Lib.hid (HBel_13.out.trans (hb.mono HBel_13.out.size))
  clear hb HL_13 HF_13 HBel_13
  go_wp2
  go_ret
  exact ⟨rfl, HBel_14.out⟩
theorem deltaBack_law (A : Option Addr) (n c : Nat) (l : List Nat) (u : Nat) (w : World) (hr : Rd w w.heap.size A (wvs l)) (hn : l.length = n) (hnc : n ≤ c) (hlt64 : ∀ x ∈ l, x < 18446744073709551616) :
    Calls Try.prog 4 #[.slice A n c, .int .u8 (u : Int)] w (Yes w) := by
  subst hn
  by_cases hs : (l.length : Int) ≤ 200
  · obtain ⟨V, hV, hw⟩ := width_of u
    exact deltaBack_core V hV A c l u w hr hnc hlt64 hs hw
  · clear hlt64 hr
    go_enter Try.func4, Try.ntmps4
    go_wp2_with (go_at_call 9; go_must (refine (deltaKnown_any _).mono ?_; rintro e w' ⟨rfl, hb⟩))
    go_ret
    exact ⟨rfl, hb⟩
end Go.Proofs.Ytgfbdopeepppkaa
