/- Laws of layer 6. -/
import Derived.Test.YtgfbdopeepppkaaFoldRef
import Derived.Test.YtgfbdopeepppkaaWordSame
import Derived.Test.YtgfbdopeepppkaaArg2
namespace Go.Proofs.Ytgfbdopeepppkaa
open Go.RowKit

theorem fFold_cells (W : Int) (ws : List Nat) (v : Value) (w : World) (h : IsCells (wvs ws) v w) (hb : ws.length ≤ 100000) (hlt64 : ∀ x ∈ ws, x < 18446744073709551616) :
    Calls Try.prog 19 #[v, .int .i64 W] w (NewW w (ofW foldW W ws)) := by
  obtain ⟨A, c, rfl, _, hr⟩ := h
  rw [wvs_length]
  exact foldFold_any W A ws.length c ws w hr rfl (by omega) hlt64
theorem fUnfold_cells (W : Int) (ws : List Nat) (v : Value) (w : World) (h : IsCells (wvs ws) v w) (hb : ws.length ≤ 100000) (hlt64 : ∀ x ∈ ws, x < 18446744073709551616) :
    Calls Try.prog 21 #[v, .int .i64 W] w (NewW w (ofW unfoldW W ws)) := by
  obtain ⟨A, c, rfl, _, hr⟩ := h
  rw [wvs_length]
  exact foldUnfold_any W A ws.length c ws w hr rfl (by omega) hlt64
theorem rFold_cells (W : Int) (ws : List Nat) (v : Value) (w : World) (h : IsCells (wvs ws) v w) (hb : ws.length ≤ 100000) (hlt64 : ∀ x ∈ ws, x < 18446744073709551616) :
    Calls Try.prog 20 #[v, .int .i64 W] w (NewW w (ofW foldW W ws)) := by
  obtain ⟨A, c, rfl, _, hr⟩ := h
  rw [wvs_length]
  exact refFold_any W A ws.length c ws w hr rfl (by omega) hlt64
theorem rUnfold_cells (W : Int) (ws : List Nat) (v : Value) (w : World) (h : IsCells (wvs ws) v w) (hb : ws.length ≤ 100000) (hlt64 : ∀ x ∈ ws, x < 18446744073709551616) :
    Calls Try.prog 22 #[v, .int .i64 W] w (NewW w (ofW unfoldW W ws)) := by
  obtain ⟨A, c, rfl, _, hr⟩ := h
  rw [wvs_length]
  exact refUnfold_any W A ws.length c ws w hr rfl (by omega) hlt64
set_option maxHeartbeats 1000000 in
set_option maxRecDepth 100000 in
theorem foldKnown_any (w : World) : Calls Try.prog 18 #[] w (Yes w) := by
  have e0 : ofW foldW 1 [0, 1, 255, 254] = [0, 2, 1, 3] := by decide
  have c0 := fun (v : Value) (w : World) (h : IsCells (wvs [0, 1, 255, 254]) v w) => fFold_cells 1 [0, 1, 255, 254] v w h (by decide) (by decide)
  rw [e0] at c0
  have C0 := Lib.hid c0
  clear c0 e0
  have e1 : ofW unfoldW 8 [3] = [18446744073709551614] := by decide
  have c1 := fun (v : Value) (w : World) (h : IsCells (wvs [3]) v w) => fUnfold_cells 8 [3] v w h (by decide) (by decide)
  rw [e1] at c1
  have C1 := Lib.hid c1
  clear c1 e1
  go_enter Try.func18, Try.ntmps18
  have HB_0 := Lib.hid ((Below.refl w.heap.size w).alloc (Nat.le_refl _) (.cells (wvs [0, 1, 255, 254]).toArray 28))
  go_wp2_with fail
  refine (C0.out _ _ (cells_new w [0, 1, 255, 254] 28)).mono ?_
  rintro e x0 ⟨v0, rfl, hv, hb⟩
  have hb1 := HB_0.out.trans (hb.mono HB_0.out.size)
  have hv1 := hv.grow ((Below.refl _ _).alloc (Nat.le_refl _) (.cells (wvs [0, 2, 1, 3]).toArray 28))
  have hb2 := hb1.alloc hb1.size (.cells (wvs [0, 2, 1, 3]).toArray 28)
  have H := Lib.hid (And.intro hv1 hb2)
  clear hb hb1 hv hv1 hb2 HB_0
  go_wp2_with fail
  refine (refSame_yes [0, 2, 1, 3] (by decide) _ _ _ H.out.1 (cells_new x0 [0, 2, 1, 3] 28)).mono ?_
  rintro e y0 ⟨rfl, hb⟩
  have hb1 := H.out.2.trans (hb.mono H.out.2.size)
  have HB_1 := Lib.hid (hb1.alloc hb1.size (.cells (wvs [3]).toArray 28))
  clear hb hb1 H
  go_wp2_with fail
  refine (C1.out _ _ (cells_new y0 [3] 28)).mono ?_
  rintro e x1 ⟨v1, rfl, hv, hb⟩
  have hb1 := HB_1.out.trans (hb.mono HB_1.out.size)
  have hv1 := hv.grow ((Below.refl _ _).alloc (Nat.le_refl _) (.cells (wvs [18446744073709551614]).toArray 28))
  have hb2 := hb1.alloc hb1.size (.cells (wvs [18446744073709551614]).toArray 28)
  have H := Lib.hid (And.intro hv1 hb2)
  clear hb hb1 hv hv1 hb2 HB_1
  go_wp2_with fail
  refine (refSame_yes [18446744073709551614] (by decide) _ _ _ H.out.1 (cells_new x1 [18446744073709551614] 28)).mono ?_
  rintro e y1 ⟨rfl, hb⟩
  have hb1 := H.out.2.trans (hb.mono H.out.2.size)
  clear hb H
  go_wp2
  go_ret
  exact ⟨rfl, hb1⟩
set_option maxHeartbeats 1000000 in
set_option maxRecDepth 100000 in
theorem foldDoes_core (A : Option Addr) (c : Nat) (l : List Nat) (W : Int) (w : World) (hr : Rd w w.heap.size A (wvs l)) (hnc : l.length ≤ c) (hlt64 : ∀ x ∈ l, x < 18446744073709551616) (hs : (l.length : Int) ≤ 200) :
    Calls Try.prog 6 #[.slice A l.length c, .int .i64 W] w (Yes w) := by
  have hl64 : l.length ≤ 100000 := by omega
  have HQ := Lib.hid hlt64
  have hL := cells_row hr rfl hnc
  clear hlt64
  go_enter Try.func6, Try.ntmps6
  have HL_0 := Lib.hid (hL)
  have HBel_0 := Lib.hid (Below.refl w.heap.size w)
  clear hL hr
  go_wp2_with fail
  refine (fFold_cells W l _ _ HL_0.out hl64 HQ.out).mono ?_
  rintro e w1 ⟨vX, rfl, hX, hb⟩
  have HX_1 := Lib.hid hX
  clear hX
  have HL_1 := Lib.hid (HL_0.out.grow hb)
  have HBel_1 := Lib.hid (HBel_0.out.trans (hb.mono HBel_0.out.size))
  clear hb HL_0 HBel_0
  go_wp2_with fail
  refine (rFold_cells W l _ _ HL_1.out hl64 HQ.out).mono ?_
  rintro e w2 ⟨vY, rfl, hY, hb⟩
  have HY_2 := Lib.hid hY
  clear hY
  have HL_2 := Lib.hid (HL_1.out.grow hb)
  have HX_2 := Lib.hid (HX_1.out.grow hb)
  have HBel_2 := Lib.hid (HBel_1.out.trans (hb.mono HBel_1.out.size))
  clear hb HL_1 HX_1 HBel_1
  go_wp2_with fail
  refine (refSame_yes _ (ofW_small foldW_len W l _ hl64) _ _ _ HX_2.out HY_2.out).mono ?_
  rintro e w3 ⟨rfl, hb⟩
  clear HX_2
  clear HY_2
  have HL_3 := Lib.hid (HL_2.out.grow hb)
  have HBel_3 := Lib.hid (HBel_2.out.trans (hb.mono HBel_2.out.size))
  clear hb HL_2 HBel_2
  go_wp2_with fail
  refine (fUnfold_cells W l _ _ HL_3.out hl64 HQ.out).mono ?_
  rintro e w4 ⟨vX, rfl, hX, hb⟩
  have HX_4 := Lib.hid hX
  clear hX
  have HL_4 := Lib.hid (HL_3.out.grow hb)
  have HBel_4 := Lib.hid (HBel_3.out.trans (hb.mono HBel_3.out.size))
  clear hb HL_3 HBel_3
  go_wp2_with fail
  refine (rUnfold_cells W l _ _ HL_4.out hl64 HQ.out).mono ?_
  rintro e w5 ⟨vY, rfl, hY, hb⟩
  have HY_5 := Lib.hid hY
  clear hY
  have HL_5 := Lib.hid (HL_4.out.grow hb)
  have HX_5 := Lib.hid (HX_4.out.grow hb)
  have HBel_5 := Lib.hid (HBel_4.out.trans (hb.mono HBel_4.out.size))
  clear hb HL_4 HX_4 HBel_4
  go_wp2_with fail
  refine (refSame_yes _ (ofW_small unfoldW_len W l _ hl64) _ _ _ HX_5.out HY_5.out).mono ?_
  rintro e w6 ⟨rfl, hb⟩
  clear HX_5
  clear HY_5
  have HL_6 := Lib.hid (HL_5.out.grow hb)
  have HBel_6 := Lib.hid (HBel_5.out.trans (hb.mono HBel_5.out.size))
  clear hb HL_5 HBel_5
  go_wp2_with fail
  refine (foldKnown_any _).mono ?_
  rintro e w7 ⟨rfl, hb⟩
  have HL_7 := Lib.hid (HL_6.out.grow hb)
  have HBel_7 := Lib.hid (HBel_6.out.trans (hb.mono HBel_6.out.size))
  clear hb HL_6 HBel_6
  go_wp2
  go_ret
  exact ⟨rfl, HBel_7.out⟩
set_option maxHeartbeats 1000000 in
set_option maxRecDepth 100000 in
theorem foldBack_core (V : Nat) (hV : IsW V) (A : Option Addr) (c : Nat) (l : List Nat) (u : Nat) (w : World) (hr : Rd w w.heap.size A (wvs l)) (hnc : l.length ≤ c) (hlt64 : ∀ x ∈ l, x < 18446744073709551616) (hs : (l.length : Int) ≤ 200) (hw : wrap64 (2 ^ (u % 4)) = (V : Int)) :
    Calls Try.prog 7 #[.slice A l.length c, .int .u8 (u : Int)] w (Yes w) := by
  have hl64 : l.length ≤ 100000 := by omega
  have HQ := Lib.hid hlt64
  have hL := cells_row hr rfl hnc
  clear hlt64
  go_enter Try.func7, Try.ntmps7
  go_wp2_with fail
  simp only [hw]
  clear hw hr
  have HL_0 := Lib.hid (hL)
  have HBel_0 := Lib.hid (Below.refl w.heap.size w)
  clear hL
  go_wp2_with fail
  refine (rFit_cells V hV l _ _ HL_0.out hl64 HQ.out).mono ?_
  rintro e w1 ⟨vF, rfl, hF, hb⟩
  have HF_1 := Lib.hid hF
  clear hF
  have HL_1 := Lib.hid (HL_0.out.grow hb)
  have HBel_1 := Lib.hid (HBel_0.out.trans (hb.mono HBel_0.out.size))
  clear hb HL_0 HBel_0
  go_wp2_with fail
  refine (fFold_cells (V : Int) l _ _ HL_1.out hl64 HQ.out).mono ?_
  rintro e w2 ⟨vX, rfl, hX, hb⟩
  have HX_2 := Lib.hid hX
  clear hX
  have HL_2 := Lib.hid (HL_1.out.grow hb)
  have HF_2 := Lib.hid (HF_1.out.grow hb)
  have HBel_2 := Lib.hid (HBel_1.out.trans (hb.mono HBel_1.out.size))
  clear hb HL_1 HF_1 HBel_1
  rw [ofW_of hV] at HX_2
  go_wp2_with fail
  refine (fUnfold_cells (V : Int) (foldW V l) _ _ HX_2.out (by rw [foldW_len]; exact hl64) (lt_64 hV (foldW_lt hV l))).mono ?_
  rintro e w3 ⟨vY, rfl, hY, hb⟩
  clear HX_2
  have HY_3 := Lib.hid hY
  clear hY
  have HL_3 := Lib.hid (HL_2.out.grow hb)
  have HF_3 := Lib.hid (HF_2.out.grow hb)
  have HBel_3 := Lib.hid (HBel_2.out.trans (hb.mono HBel_2.out.size))
  clear hb HL_2 HF_2 HBel_2
  rw [ofW_of hV, unfold_fold hV l, ← fitW] at HY_3
  go_wp2_with fail
  refine (refSame_yes _ (by rw [fitW_len]; exact hl64) _ _ _ HY_3.out HF_3.out).mono ?_
  rintro e w4 ⟨rfl, hb⟩
  clear HY_3
  have HL_4 := Lib.hid (HL_3.out.grow hb)
  have HF_4 := Lib.hid (HF_3.out.grow hb)
  have HBel_4 := Lib.hid (HBel_3.out.trans (hb.mono HBel_3.out.size))
  clear hb HL_3 HF_3 HBel_3
  go_wp2_with fail
  refine (fUnfold_cells (V : Int) l _ _ HL_4.out hl64 HQ.out).mono ?_
  rintro e w5 ⟨vX, rfl, hX, hb⟩
  have HX_5 := Lib.hid hX
  clear hX
  have HL_5 := Lib.hid (HL_4.out.grow hb)
  have HF_5 := Lib.hid (HF_4.out.grow hb)
  have HBel_5 := Lib.hid (HBel_4.out.trans (hb.mono HBel_4.out.size))
  clear hb HL_4 HF_4 HBel_4
  rw [ofW_of hV] at HX_5
  go_wp2_with fail
  refine (fFold_cells (V : Int) (unfoldW V l) _ _ HX_5.out (by rw [unfoldW_len]; exact hl64) (lt_64 hV (unfoldW_lt hV l))).mono ?_
  rintro e w6 ⟨vY, rfl, hY, hb⟩
  clear HX_5
  have HY_6 := Lib.hid hY
  clear hY
  have HL_6 := Lib.hid (HL_5.out.grow hb)
  have HF_6 := Lib.hid (HF_5.out.grow hb)
  have HBel_6 := Lib.hid (HBel_5.out.trans (hb.mono HBel_5.out.size))
  clear hb HL_5 HF_5 HBel_5
  rw [ofW_of hV, fold_unfold hV l, ← fitW] at HY_6
  go_wp2_with fail
  refine (refSame_yes _ (by rw [fitW_len]; exact hl64) _ _ _ HY_6.out HF_6.out).mono ?_
  rintro e w7 ⟨rfl, hb⟩
  clear HY_6
  have HL_7 := Lib.hid (HL_6.out.grow hb)
  have HF_7 := Lib.hid (HF_6.out.grow hb)
  have HBel_7 := Lib.hid (HBel_6.out.trans (hb.mono HBel_6.out.size))
  clear hb HL_6 HF_6 HBel_6
  go_wp2_with fail
  refine (foldKnown_any _).mono ?_
  rintro e w8 ⟨rfl, hb⟩
  have HL_8 := Lib.hid (HL_7.out.grow hb)
  have HF_8 := Lib.hid (HF_7.out.grow hb)
  have HBel_8 := Lib.hid (HBel_7.out.trans (hb.mono HBel_7.out.size))
  clear hb HL_7 HF_7 HBel_7
  go_wp2
  go_ret
  exact ⟨rfl, HBel_8.out⟩
theorem foldDoes_law (A : Option Addr) (n c : Nat) (l : List Nat) (W : Int) (w : World) (hr : Rd w w.heap.size A (wvs l)) (hn : l.length = n) (hnc : n ≤ c) (hlt64 : ∀ x ∈ l, x < 18446744073709551616) :
    Calls Try.prog 6 #[.slice A n c, .int .i64 W] w (Yes w) := by
  subst hn
  by_cases hs : (l.length : Int) ≤ 200
  · exact foldDoes_core A c l W w hr hnc hlt64 hs
  · clear hlt64 hr
    go_enter Try.func6, Try.ntmps6
    go_wp2_with (go_at_call 18; go_must (refine (foldKnown_any _).mono ?_; rintro e w' ⟨rfl, hb⟩))
    go_ret
    exact ⟨rfl, hb⟩
theorem foldBack_law (A : Option Addr) (n c : Nat) (l : List Nat) (u : Nat) (w : World) (hr : Rd w w.heap.size A (wvs l)) (hn : l.length = n) (hnc : n ≤ c) (hlt64 : ∀ x ∈ l, x < 18446744073709551616) :
    Calls Try.prog 7 #[.slice A n c, .int .u8 (u : Int)] w (Yes w) := by
  subst hn
  by_cases hs : (l.length : Int) ≤ 200
  · obtain ⟨V, hV, hw⟩ := width_of u
    exact foldBack_core V hV A c l u w hr hnc hlt64 hs hw
  · clear hlt64 hr
    go_enter Try.func7, Try.ntmps7
    go_wp2_with (go_at_call 18; go_must (refine (foldKnown_any _).mono ?_; rintro e w' ⟨rfl, hb⟩))
    go_ret
    exact ⟨rfl, hb⟩
end Go.Proofs.Ytgfbdopeepppkaa
