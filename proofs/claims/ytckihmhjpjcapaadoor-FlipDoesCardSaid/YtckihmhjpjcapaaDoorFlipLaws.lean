/- Laws of layer 7. -/
import Derived.Test.YtckihmhjpjcapaaDoorFlipRef
import Derived.Test.YtckihmhjpjcapaaDoorFlipWin
import Derived.Test.YtckihmhjpjcapaaDoorWordSame
import Derived.Test.YtckihmhjpjcapaaDoorArg2
namespace Go.Proofs.YtckihmhjpjcapaaDoor
open Go.RowKit

theorem dFlip_cells (W : Int) (ws : List Nat) (v : Value) (w : World) (h : IsCells (wvs ws) v w) (hb : ws.length ≤ 100000) (hlt64 : ∀ x ∈ ws, x < 18446744073709551616) :
    Calls Tryd.prog 7 #[v, .int .i64 W] w (NewW w (ofW flipW W ws)) := by
  obtain ⟨A, c, rfl, _, hr⟩ := h
  rw [wvs_length]
  exact flipFlip_any W A ws.length c ws w hr rfl (by omega) hlt64
theorem dBack_cells (W : Int) (ws : List Nat) (v : Value) (w : World) (h : IsCells (wvs ws) v w) (hb : ws.length ≤ 100000) (hlt64 : ∀ x ∈ ws, x < 18446744073709551616) :
    Calls Tryd.prog 9 #[v, .int .i64 W] w (NewW w (ofW backW W ws)) := by
  obtain ⟨A, c, rfl, _, hr⟩ := h
  rw [wvs_length]
  exact flipBack_any W A ws.length c ws w hr rfl (by omega) hlt64
theorem rFlip_cells (W : Int) (ws : List Nat) (v : Value) (w : World) (h : IsCells (wvs ws) v w) (hb : ws.length ≤ 100000) (hlt64 : ∀ x ∈ ws, x < 18446744073709551616) :
    Calls Tryd.prog 8 #[v, .int .i64 W] w (NewW w (ofW flipW W ws)) := by
  obtain ⟨A, c, rfl, _, hr⟩ := h
  rw [wvs_length]
  exact refFlip_any W A ws.length c ws w hr rfl (by omega) hlt64
theorem rBack_cells (W : Int) (ws : List Nat) (v : Value) (w : World) (h : IsCells (wvs ws) v w) (hb : ws.length ≤ 100000) (hlt64 : ∀ x ∈ ws, x < 18446744073709551616) :
    Calls Tryd.prog 10 #[v, .int .i64 W] w (NewW w (ofW backW W ws)) := by
  obtain ⟨A, c, rfl, _, hr⟩ := h
  rw [wvs_length]
  exact refBack_any W A ws.length c ws w hr rfl (by omega) hlt64
set_option maxHeartbeats 1000000 in
set_option maxRecDepth 100000 in
theorem flipKnown_any (w : World) (ht : Tab w) : Calls Tryd.prog 5 #[] w (Yes w) := by
  have e0 : ofW flipW 1 [5, 7, 7] = [5, 2, 0] := by decide
  have c0 := fun (v : Value) (w : World) (h : IsCells (wvs [5, 7, 7]) v w) => dFlip_cells 1 [5, 7, 7] v w h (by decide) (by decide)
  rw [e0] at c0
  have C0 := Lib.hid c0
  clear c0 e0
  have e1 : ofW backW 1 [5, 2, 0] = [5, 7, 7] := by decide
  have c1 := fun (v : Value) (w : World) (h : IsCells (wvs [5, 2, 0]) v w) => dBack_cells 1 [5, 2, 0] v w h (by decide) (by decide)
  rw [e1] at c1
  have C1 := Lib.hid c1
  clear c1 e1
  have HT := Lib.hid ht
  clear ht
  go_enter Tryd.func5, Tryd.ntmps5
  go_wp2_with fail
  refine (window_40 _ HT.out).mono ?_
  rintro e w' ⟨rfl, hw⟩
  obtain rfl := hw.symm
  clear HT
  have HB_0 := Lib.hid ((Below.refl w.heap.size w).alloc (Nat.le_refl _) (.cells (wvs [5, 7, 7]).toArray 30))
  go_wp2_with fail
  refine (C0.out _ _ (cells_new w [5, 7, 7] 30)).mono ?_
  rintro e x0 ⟨v0, rfl, hv, hb⟩
  have hb1 := HB_0.out.trans (hb.mono HB_0.out.size)
  have hv1 := hv.grow ((Below.refl _ _).alloc (Nat.le_refl _) (.cells (wvs [5, 2, 0]).toArray 30))
  have hb2 := hb1.alloc hb1.size (.cells (wvs [5, 2, 0]).toArray 30)
  have H := Lib.hid (And.intro hv1 hb2)
  clear hb hb1 hv hv1 hb2 HB_0
  go_wp2_with fail
  refine (refSame_yes [5, 2, 0] (by decide) _ _ _ H.out.1 (cells_new x0 [5, 2, 0] 30)).mono ?_
  rintro e y0 ⟨rfl, hb⟩
  have hb1 := H.out.2.trans (hb.mono H.out.2.size)
  have HB_1 := Lib.hid (hb1.alloc hb1.size (.cells (wvs [5, 2, 0]).toArray 30))
  clear hb hb1 H
  go_wp2_with fail
  refine (C1.out _ _ (cells_new y0 [5, 2, 0] 30)).mono ?_
  rintro e x1 ⟨v1, rfl, hv, hb⟩
  have hb1 := HB_1.out.trans (hb.mono HB_1.out.size)
  have hv1 := hv.grow ((Below.refl _ _).alloc (Nat.le_refl _) (.cells (wvs [5, 7, 7]).toArray 30))
  have hb2 := hb1.alloc hb1.size (.cells (wvs [5, 7, 7]).toArray 30)
  have H := Lib.hid (And.intro hv1 hb2)
  clear hb hb1 hv hv1 hb2 HB_1
  go_wp2_with fail
  refine (refSame_yes [5, 7, 7] (by decide) _ _ _ H.out.1 (cells_new x1 [5, 7, 7] 30)).mono ?_
  rintro e y1 ⟨rfl, hb⟩
  have hb1 := H.out.2.trans (hb.mono H.out.2.size)
  clear hb H
  go_wp2
  go_ret
  exact ⟨rfl, hb1⟩
set_option maxHeartbeats 1000000 in
set_option maxRecDepth 100000 in
theorem flipDoes_core (A : Option Addr) (c : Nat) (l : List Nat) (W : Int) (w : World) (hr : Rd w w.heap.size A (wvs l)) (hnc : l.length ≤ c) (hlt64 : ∀ x ∈ l, x < 18446744073709551616) (hs : (l.length : Int) ≤ 200) (ht : Tab w) :
    Calls Tryd.prog 3 #[.slice A l.length c, .int .i64 W] w (Yes w) := by
  have hl64 : l.length ≤ 100000 := by omega
  have HQ := Lib.hid hlt64
  clear hlt64
  go_enter Tryd.func3, Tryd.ntmps3
  have HL_0 := Lib.hid (cells_row hr rfl hnc)
  have HT_0 := Lib.hid (ht)
  have HBel_0 := Lib.hid (Below.refl w.heap.size w)
  clear ht hr hnc
  go_wp2_with fail
  refine (dFlip_cells W l _ _ HL_0.out hl64 HQ.out).mono ?_
  rintro e w1 ⟨vA, rfl, hA, hb⟩
  have HA_1 := Lib.hid hA
  clear hA
  have HL_1 := Lib.hid (HL_0.out.grow hb)
  have HT_1 := Lib.hid (HT_0.out.grow hb)
  have HBel_1 := Lib.hid (HBel_0.out.trans (hb.mono HBel_0.out.size))
  clear hb HL_0 HT_0 HBel_0
  go_wp2_with fail
  refine (rFlip_cells W l _ _ HL_1.out hl64 HQ.out).mono ?_
  rintro e w2 ⟨vX, rfl, hX, hb⟩
  have HX_2 := Lib.hid hX
  clear hX
  have HL_2 := Lib.hid (HL_1.out.grow hb)
  have HT_2 := Lib.hid (HT_1.out.grow hb)
  have HA_2 := Lib.hid (HA_1.out.grow hb)
  have HBel_2 := Lib.hid (HBel_1.out.trans (hb.mono HBel_1.out.size))
  clear hb HL_1 HT_1 HA_1 HBel_1
  go_wp2_with fail
  refine (refSame_yes _ (ofW_small flipW_len W l _ hl64) _ _ _ HA_2.out HX_2.out).mono ?_
  rintro e w3 ⟨rfl, hb⟩
  clear HA_2
  clear HX_2
  have HL_3 := Lib.hid (HL_2.out.grow hb)
  have HT_3 := Lib.hid (HT_2.out.grow hb)
  have HBel_3 := Lib.hid (HBel_2.out.trans (hb.mono HBel_2.out.size))
  clear hb HL_2 HT_2 HBel_2
  go_wp2_with fail
  refine (dBack_cells W l _ _ HL_3.out hl64 HQ.out).mono ?_
  rintro e w4 ⟨vB, rfl, hB, hb⟩
  have HB_4 := Lib.hid hB
  clear hB
  have HL_4 := Lib.hid (HL_3.out.grow hb)
  have HT_4 := Lib.hid (HT_3.out.grow hb)
  have HBel_4 := Lib.hid (HBel_3.out.trans (hb.mono HBel_3.out.size))
  clear hb HL_3 HT_3 HBel_3
  go_wp2_with fail
  refine (rBack_cells W l _ _ HL_4.out hl64 HQ.out).mono ?_
  rintro e w5 ⟨vY, rfl, hY, hb⟩
  have HY_5 := Lib.hid hY
  clear hY
  have HL_5 := Lib.hid (HL_4.out.grow hb)
  have HT_5 := Lib.hid (HT_4.out.grow hb)
  have HB_5 := Lib.hid (HB_4.out.grow hb)
  have HBel_5 := Lib.hid (HBel_4.out.trans (hb.mono HBel_4.out.size))
  clear hb HL_4 HT_4 HB_4 HBel_4
  go_wp2_with fail
  refine (refSame_yes _ (ofW_small backW_len W l _ hl64) _ _ _ HB_5.out HY_5.out).mono ?_
  rintro e w6 ⟨rfl, hb⟩
  clear HB_5
  clear HY_5
  have HL_6 := Lib.hid (HL_5.out.grow hb)
  have HT_6 := Lib.hid (HT_5.out.grow hb)
  have HBel_6 := Lib.hid (HBel_5.out.trans (hb.mono HBel_5.out.size))
  clear hb HL_5 HT_5 HBel_5
  go_wp2_with fail
  refine (flipKnown_any _ HT_6.out).mono ?_
  rintro e w7 ⟨rfl, hb⟩
  have HL_7 := Lib.hid (HL_6.out.grow hb)
  have HT_7 := Lib.hid (HT_6.out.grow hb)
  have HBel_7 := Lib.hid (HBel_6.out.trans (hb.mono HBel_6.out.size))
  clear hb HL_6 HT_6 HBel_6
  go_wp2
  go_ret
  exact ⟨rfl, HBel_7.out⟩
theorem flipDoes_law (A : Option Addr) (n c : Nat) (l : List Nat) (W : Int) (w : World) (hr : Rd w w.heap.size A (wvs l)) (hn : l.length = n) (hnc : n ≤ c) (hlt64 : ∀ x ∈ l, x < 18446744073709551616) (ht : Tab w) :
    Calls Tryd.prog 3 #[.slice A n c, .int .i64 W] w (Yes w) := by
  subst hn
  by_cases hs : (l.length : Int) ≤ 200
  · exact flipDoes_core A c l W w hr hnc hlt64 hs ht
  · clear hlt64 hr
    have HT := Lib.hid ht
    clear ht
    go_enter Tryd.func3, Tryd.ntmps3
    go_wp2_with (go_at_call 5; go_must (refine (flipKnown_any _ HT.out).mono ?_; rintro e w' ⟨rfl, hb⟩))
    go_ret
    exact ⟨rfl, hb⟩
set_option maxHeartbeats 1000000 in
set_option maxRecDepth 100000 in
theorem flipBack_core (V : Nat) (hV : IsW V) (A : Option Addr) (c : Nat) (l : List Nat) (u : Nat) (w : World) (hr : Rd w w.heap.size A (wvs l)) (hnc : l.length ≤ c) (hlt64 : ∀ x ∈ l, x < 18446744073709551616) (hs : (l.length : Int) ≤ 200) (ht : Tab w) (hw : wrap64 (2 ^ (u % 4)) = (V : Int)) :
    Calls Tryd.prog 4 #[.slice A l.length c, .int .u8 (u : Int)] w (Yes w) := by
  have hl64 : l.length ≤ 100000 := by omega
  have HQ := Lib.hid hlt64
  clear hlt64
  go_enter Tryd.func4, Tryd.ntmps4
  go_wp2_with fail
  simp only [hw]
  clear hw
  have HL_0 := Lib.hid (cells_row hr rfl hnc)
  have HT_0 := Lib.hid (ht)
  have HBel_0 := Lib.hid (Below.refl w.heap.size w)
  clear ht hr hnc
  go_wp2_with fail
  refine (rFit_cells V hV l _ _ HL_0.out hl64 HQ.out).mono ?_
  rintro e w1 ⟨vF, rfl, hF, hb⟩
  have HF_1 := Lib.hid hF
  clear hF
  have HL_1 := Lib.hid (HL_0.out.grow hb)
  have HT_1 := Lib.hid (HT_0.out.grow hb)
  have HBel_1 := Lib.hid (HBel_0.out.trans (hb.mono HBel_0.out.size))
  clear hb HL_0 HT_0 HBel_0
  go_wp2_with fail
  refine (dFlip_cells (V : Int) l _ _ HL_1.out hl64 HQ.out).mono ?_
  rintro e w2 ⟨vX, rfl, hX, hb⟩
  have HX_2 := Lib.hid hX
  clear hX
  have HL_2 := Lib.hid (HL_1.out.grow hb)
  have HT_2 := Lib.hid (HT_1.out.grow hb)
  have HF_2 := Lib.hid (HF_1.out.grow hb)
  have HBel_2 := Lib.hid (HBel_1.out.trans (hb.mono HBel_1.out.size))
  clear hb HL_1 HT_1 HF_1 HBel_1
  rw [ofW_of hV] at HX_2
  go_wp2_with fail
  refine (dBack_cells (V : Int) (flipW V l) _ _ HX_2.out (by rw [flipW_len]; exact hl64) (lt_64 hV (flipW_lt V l))).mono ?_
  rintro e w3 ⟨vY, rfl, hY, hb⟩
  clear HX_2
  have HY_3 := Lib.hid hY
  clear hY
  have HL_3 := Lib.hid (HL_2.out.grow hb)
  have HT_3 := Lib.hid (HT_2.out.grow hb)
  have HF_3 := Lib.hid (HF_2.out.grow hb)
  have HBel_3 := Lib.hid (HBel_2.out.trans (hb.mono HBel_2.out.size))
  clear hb HL_2 HT_2 HF_2 HBel_2
  rw [ofW_of hV, back_flip V l, ← fitW] at HY_3
  go_wp2_with fail
  refine (refSame_yes _ (by rw [fitW_len]; exact hl64) _ _ _ HY_3.out HF_3.out).mono ?_
  rintro e w4 ⟨rfl, hb⟩
  clear HY_3
  have HL_4 := Lib.hid (HL_3.out.grow hb)
  have HT_4 := Lib.hid (HT_3.out.grow hb)
  have HF_4 := Lib.hid (HF_3.out.grow hb)
  have HBel_4 := Lib.hid (HBel_3.out.trans (hb.mono HBel_3.out.size))
  clear hb HL_3 HT_3 HF_3 HBel_3
  go_wp2_with fail
  refine (dBack_cells (V : Int) l _ _ HL_4.out hl64 HQ.out).mono ?_
  rintro e w5 ⟨vX, rfl, hX, hb⟩
  have HX_5 := Lib.hid hX
  clear hX
  have HL_5 := Lib.hid (HL_4.out.grow hb)
  have HT_5 := Lib.hid (HT_4.out.grow hb)
  have HF_5 := Lib.hid (HF_4.out.grow hb)
  have HBel_5 := Lib.hid (HBel_4.out.trans (hb.mono HBel_4.out.size))
  clear hb HL_4 HT_4 HF_4 HBel_4
  rw [ofW_of hV] at HX_5
  go_wp2_with fail
  refine (dFlip_cells (V : Int) (backW V l) _ _ HX_5.out (by rw [backW_len]; exact hl64) (lt_64 hV (backW_lt V l))).mono ?_
  rintro e w6 ⟨vY, rfl, hY, hb⟩
  clear HX_5
  have HY_6 := Lib.hid hY
  clear hY
  have HL_6 := Lib.hid (HL_5.out.grow hb)
  have HT_6 := Lib.hid (HT_5.out.grow hb)
  have HF_6 := Lib.hid (HF_5.out.grow hb)
  have HBel_6 := Lib.hid (HBel_5.out.trans (hb.mono HBel_5.out.size))
  clear hb HL_5 HT_5 HF_5 HBel_5
  rw [ofW_of hV, flip_back V l, ← fitW] at HY_6
  go_wp2_with fail
  refine (refSame_yes _ (by rw [fitW_len]; exact hl64) _ _ _ HY_6.out HF_6.out).mono ?_
  rintro e w7 ⟨rfl, hb⟩
  clear HY_6
  have HL_7 := Lib.hid (HL_6.out.grow hb)
  have HT_7 := Lib.hid (HT_6.out.grow hb)
  have HF_7 := Lib.hid (HF_6.out.grow hb)
  have HBel_7 := Lib.hid (HBel_6.out.trans (hb.mono HBel_6.out.size))
  clear hb HL_6 HT_6 HF_6 HBel_6
  go_wp2_with fail
  refine (flipKnown_any _ HT_7.out).mono ?_
  rintro e w8 ⟨rfl, hb⟩
  have HL_8 := Lib.hid (HL_7.out.grow hb)
  have HT_8 := Lib.hid (HT_7.out.grow hb)
  have HF_8 := Lib.hid (HF_7.out.grow hb)
  have HBel_8 := Lib.hid (HBel_7.out.trans (hb.mono HBel_7.out.size))
  clear hb HL_7 HT_7 HF_7 HBel_7
  go_wp2
  go_ret
  exact ⟨rfl, HBel_8.out⟩
theorem flipBack_law (A : Option Addr) (n c : Nat) (l : List Nat) (u : Nat) (w : World) (hr : Rd w w.heap.size A (wvs l)) (hn : l.length = n) (hnc : n ≤ c) (hlt64 : ∀ x ∈ l, x < 18446744073709551616) (ht : Tab w) :
    Calls Tryd.prog 4 #[.slice A n c, .int .u8 (u : Int)] w (Yes w) := by
  subst hn
  by_cases hs : (l.length : Int) ≤ 200
  · obtain ⟨V, hV, hw⟩ := width_of u
    exact flipBack_core V hV A c l u w hr hnc hlt64 hs ht hw
  · clear hlt64 hr
    have HT := Lib.hid ht
    clear ht
    go_enter Tryd.func4, Tryd.ntmps4
    go_wp2_with (go_at_call 5; go_must (refine (flipKnown_any _ HT.out).mono ?_; rintro e w' ⟨rfl, hb⟩))
    go_ret
    exact ⟨rfl, hb⟩
end Go.Proofs.YtckihmhjpjcapaaDoor
