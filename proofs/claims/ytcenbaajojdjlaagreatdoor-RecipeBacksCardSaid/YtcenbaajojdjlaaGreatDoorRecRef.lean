/- Contracts of layer 11's reference: Steps, Known, a step, Go. -/
import Derived.Test.YtcenbaajojdjlaaGreatDoorRecKnown
import Derived.Test.YtcenbaajojdjlaaGreatDoorWordRTake
import Derived.Test.YtcenbaajojdjlaaGreatDoorDeltaRef
import Derived.Test.YtcenbaajojdjlaaGreatDoorFoldRef
import Derived.Test.YtcenbaajojdjlaaGreatDoorFlipRef
import Derived.Test.YtcenbaajojdjlaaGreatDoorPlaneRef
import Derived.Test.YtcenbaajojdjlaaGreatDoorRunsRUn
namespace Go.Proofs.YtcenbaajojdjlaaGreatDoor
open Go.RowKit Go.Shelf

theorem one_ok (w : World) (l : List Nat) (m : Nat) (hm : l.length = m) :
    ∃ v, Ending.returned (.slice (some ⟨w.heap.size, 0, none⟩) m m) = .returned v ∧ IsCells (nvs l) v (w.alloc (.cells (nvs l).toArray 3)) ∧ Below w.heap.size w (w.alloc (.cells (nvs l).toArray 3)) := steps_ok w 0 m l [_] hm rfl
set_option maxHeartbeats 4000000 in
set_option maxRecDepth 100000 in
theorem rSteps_any (n : Int) (w : World) : Calls Tryz.prog 9 #[.int .i64 n] w fun e w' => ∃ v, e = .returned v ∧ IsCells (nvs (stepsI n)) v w' ∧ Below w.heap.size w w' := by
  by_cases hin : 1 ≤ n ∧ n ≤ 10
  · rcases (show n = 1 ∨ n = 2 ∨ n = 3 ∨ n = 4 ∨ n = 5 ∨ n = 6 ∨ n = 7 ∨ n = 8 ∨ n = 9 ∨ n = 10 by omega) with rfl | rfl | rfl | rfl | rfl | rfl | rfl | rfl | rfl | rfl
    · clear hin
      rw [show stepsI 1 = [1, 3] from rfl]
      go_enter Tryz.func9, Tryz.ntmps9
      go_wp2
      go_ret
      exact one_ok w [1, 3] 2 rfl
    · clear hin
      rw [show stepsI 2 = [2, 3] from rfl]
      go_enter Tryz.func9, Tryz.ntmps9
      go_wp2
      go_ret
      exact one_ok w [2, 3] 2 rfl
    · clear hin
      rw [show stepsI 3 = [4] from rfl]
      go_enter Tryz.func9, Tryz.ntmps9
      go_wp2
      go_ret
      exact one_ok w [4] 1 rfl
    · clear hin
      rw [show stepsI 4 = [5] from rfl]
      go_enter Tryz.func9, Tryz.ntmps9
      go_wp2
      go_ret
      exact one_ok w [5] 1 rfl
    · clear hin
      rw [show stepsI 5 = [1, 3, 5] from rfl]
      go_enter Tryz.func9, Tryz.ntmps9
      go_wp2
      go_ret
      exact one_ok w [1, 3, 5] 3 rfl
    · clear hin
      rw [show stepsI 6 = [2, 3, 5] from rfl]
      go_enter Tryz.func9, Tryz.ntmps9
      go_wp2
      go_ret
      exact one_ok w [2, 3, 5] 3 rfl
    · clear hin
      rw [show stepsI 7 = [4, 5] from rfl]
      go_enter Tryz.func9, Tryz.ntmps9
      go_wp2
      go_ret
      exact one_ok w [4, 5] 2 rfl
    · clear hin
      rw [show stepsI 8 = [6] from rfl]
      go_enter Tryz.func9, Tryz.ntmps9
      go_wp2
      go_ret
      exact one_ok w [6] 1 rfl
    · clear hin
      rw [show stepsI 9 = [7] from rfl]
      go_enter Tryz.func9, Tryz.ntmps9
      go_wp2
      go_ret
      exact one_ok w [7] 1 rfl
    · clear hin
      rw [show stepsI 10 = [1, 3, 5, 7] from rfl]
      go_enter Tryz.func9, Tryz.ntmps9
      go_wp2
      go_ret
      exact one_ok w [1, 3, 5, 7] 4 rfl
  · have hz : stepsI n = [] := by
      unfold stepsI
      split
      · rename_i h
        obtain rfl : n = 0 := by omega
        rfl
      · rfl
    rw [hz]
    have h1 : (n == 1) = false := by rw [beq_eq_false_iff_ne]; omega
    have h2 : (n == 2) = false := by rw [beq_eq_false_iff_ne]; omega
    have h3 : (n == 3) = false := by rw [beq_eq_false_iff_ne]; omega
    have h4 : (n == 4) = false := by rw [beq_eq_false_iff_ne]; omega
    have h5 : (n == 5) = false := by rw [beq_eq_false_iff_ne]; omega
    have h6 : (n == 6) = false := by rw [beq_eq_false_iff_ne]; omega
    have h7 : (n == 7) = false := by rw [beq_eq_false_iff_ne]; omega
    have h8 : (n == 8) = false := by rw [beq_eq_false_iff_ne]; omega
    have h9 : (n == 9) = false := by rw [beq_eq_false_iff_ne]; omega
    have h10 : (n == 10) = false := by rw [beq_eq_false_iff_ne]; omega
    clear hin hz
    go_enter Tryz.func9, Tryz.ntmps9
    go_wp2
    go_ret
    exact ⟨_, rfl, ⟨none, 0, rfl, Nat.le_refl _, Rd.nil_ _ _ _⟩, Below.refl _ _⟩
def knownB (W n : Int) : Bool := rightB W && decide (0 ≤ n) && decide (n ≤ 10)
set_option maxHeartbeats 1000000 in
set_option maxRecDepth 100000 in
theorem rKnown_any (W n : Int) (w : World) : Calls Tryz.prog 16 #[.int .i64 W, .int .i64 n] w fun e w' => e = .returned (.bool (knownB W n)) ∧ w = w' := by
  have C1 := Lib.hid (fun (w' : World) => refRight_any W (rightB W) rfl w')
  unfold knownB
  cases hR : rightB W with
  | false =>
    rw [hR] at C1
    clear hR
    go_enter Tryz.func16, Tryz.ntmps16
    go_wp2_with fail
    refine (C1.out _).mono ?_
    rintro e w' ⟨rfl, rfl⟩
    go_wp2
    go_ret
    exact ⟨rfl, rfl⟩
  | true =>
    rw [hR] at C1
    clear hR
    by_cases h0 : 0 ≤ n
    · by_cases h1 : n ≤ 10
      · have hd : (true && decide (0 ≤ n) && decide (n ≤ 10)) = true := by simp [h0, h1]
        rw [hd]
        clear hd
        go_enter Tryz.func16, Tryz.ntmps16
        go_wp2_with fail
        refine (C1.out _).mono ?_
        rintro e w' ⟨rfl, rfl⟩
        go_wp2
        go_ret
        exact ⟨rfl, rfl⟩
      · have hd : (true && decide (0 ≤ n) && decide (n ≤ 10)) = false := by simp [h1]
        rw [hd]
        clear hd
        go_enter Tryz.func16, Tryz.ntmps16
        go_wp2_with fail
        refine (C1.out _).mono ?_
        rintro e w' ⟨rfl, rfl⟩
        go_wp2
        go_ret
        exact ⟨ret_bool (by simp [h1]), rfl⟩
    · have hd : (true && decide (0 ≤ n) && decide (n ≤ 10)) = false := by simp [h0]
      rw [hd]
      clear hd
      go_enter Tryz.func16, Tryz.ntmps16
      go_wp2_with fail
      refine (C1.out _).mono ?_
      rintro e w' ⟨rfl, rfl⟩
      go_wp2
      go_ret
      exact ⟨rfl, rfl⟩
theorem refTake_any {W : Nat} (hW : IsW W) (A : Option Addr) (c : Nat) (l : List UInt8) (w : World) (hr : Rd w w.heap.size A (bvs l)) (hnc : l.length ≤ c) (hb1 : l.length ≤ 100000) :
    Calls Tryz.prog 40 #[.slice A l.length c, .int .i64 (W : Int)] w (NewTake w (wordsOf W l) (restOf W l)) := by
  rcases hW with rfl | rfl | rfl | rfl
  · exact refTake_1 A l.length c _ l w hr rfl rfl hnc hb1
  · exact refTake_2 A l.length c _ l w hr rfl rfl hnc hb1
  · exact refTake_4 A l.length c _ l w hr rfl rfl hnc hb1
  · exact refTake_8 A l.length c _ l w hr rfl rfl hnc hb1
theorem rfn_diff {W : Nat} (hW : IsW W) : WordsFn W 41 (diffW W) := ⟨enters_of Tryz.func41 (by kernel_rfl) rfl, diffW_len W, diffW_lt W, fun A c ws w hr hb h64 => by have := refDiff_any (W : Int) A ws.length c ws w hr rfl (by omega) h64; rwa [ofW_of hW] at this⟩
theorem rfn_sum {W : Nat} (hW : IsW W) : WordsFn W 52 (sumW W) := ⟨enters_of Tryz.func52 (by kernel_rfl) rfl, sumW_len W, sumW_lt W, fun A c ws w hr hb h64 => by have := refSum_any (W : Int) A ws.length c ws w hr rfl (by omega) h64; rwa [ofW_of hW] at this⟩
theorem rfn_fold {W : Nat} (hW : IsW W) : WordsFn W 42 (foldW W) := ⟨enters_of Tryz.func42 (by kernel_rfl) rfl, foldW_len W, foldW_lt hW, fun A c ws w hr hb h64 => by have := refFold_any (W : Int) A ws.length c ws w hr rfl (by omega) h64; rwa [ofW_of hW] at this⟩
theorem rfn_unfold {W : Nat} (hW : IsW W) : WordsFn W 53 (unfoldW W) := ⟨enters_of Tryz.func53 (by kernel_rfl) rfl, unfoldW_len W, unfoldW_lt hW, fun A c ws w hr hb h64 => by have := refUnfold_any (W : Int) A ws.length c ws w hr rfl (by omega) h64; rwa [ofW_of hW] at this⟩
theorem rfn_flip {W : Nat} (hW : IsW W) : WordsFn W 43 (flipW W) := ⟨enters_of Tryz.func43 (by kernel_rfl) rfl, flipW_len W, flipW_lt W, fun A c ws w hr hb h64 => by have := refFlip_any (W : Int) A ws.length c ws w hr rfl (by omega) h64; rwa [ofW_of hW] at this⟩
theorem rfn_back {W : Nat} (hW : IsW W) : WordsFn W 54 (backW W) := ⟨enters_of Tryz.func54 (by kernel_rfl) rfl, backW_len W, backW_lt W, fun A c ws w hr hb h64 => by have := refBack_any (W : Int) A ws.length c ws w hr rfl (by omega) h64; rwa [ofW_of hW] at this⟩
set_option maxHeartbeats 1000000 in
set_option maxRecDepth 100000 in
theorem rDo1 {W : Nat} (hW : IsW W) (l : List UInt8) (v : Value) (w : World) (hv : IsBytes l v w) (hl : l.length ≤ 90000) :
    Calls Tryz.prog 17 #[v, .int .i64 (W : Int), .int .i64 1] w (NewBs w (through (diffW W) W l)) := by
  obtain ⟨A, c, rfl, hc, hr⟩ := hv
  have hp := hW.pos
  have C1 := Lib.hid (refTake_any hW A c l w hr hc (by omega))
  obtain ⟨ws, hws⟩ : ∃ ws, ws = wordsOf W l := ⟨_, rfl⟩
  obtain ⟨rs, hrs⟩ : ∃ rs, rs = restOf W l := ⟨_, rfl⟩
  rw [← hws, ← hrs] at C1
  have hwl : ws.length ≤ 90000 := by rw [hws, wordsOf_len]; exact Nat.le_trans (Nat.div_le_self _ _) hl
  have hrl : rs.length < 8 := by have := rest_lt (W := W) (by omega) l; rw [hrs]; omega
  have h64 : ∀ x ∈ ws, x < 18446744073709551616 := by rw [hws]; exact lt_64 hW (wordsOf_lt (W := W) (by omega) l)
  obtain ⟨X0, hX0⟩ : ∃ X0, X0 = diffW W ws := ⟨_, rfl⟩
  have hX064 : ∀ x ∈ X0, x < 18446744073709551616 := by rw [hX0]; exact lt_64 hW ((rfn_diff hW).2.2.1 ws)
  have hX0l : X0.length ≤ 90000 := by rw [hX0, (rfn_diff hW).2.1]; omega
  have cf0 := fun (A1 : Option Addr) (c1 : Nat) (w' : World) (h : Rd w' w'.heap.size A1 (wvs ws)) => (rfn_diff hW).2.2.2 A1 c1 ws w' h (by omega) h64
  rw [← hX0] at cf0
  have CF0 := Lib.hid cf0
  have hth : through (diffW W) W l = layW W X0 ++ rs := by
    unfold through
    rw [← hws, ← hrs, hX0]
  rw [hth]
  have CL := Lib.hid (fun (A1 : Option Addr) (c1 : Nat) (A2 : Option Addr) (c2 : Nat) (w' : World) (h : Rd w' w'.heap.size A1 (wvs X0)) (h2 : Rd w' w'.heap.size A2 (bvs rs)) => refLay_any W hW A1 X0.length c1 X0 A2 rs.length c2 rs w' h rfl hX064 h2 rfl (by omega) (by omega))
  clear hr hW h64 hws hrs hth hwl hrl hX0 hX064 hX0l cf0
  go_enter Tryz.func17, Tryz.ntmps17
  go_wp2_with fail
  refine C1.out.mono ?_
  rintro e w1 ⟨v1, v2, rfl, h1, h2, hb⟩
  have HB := Lib.hid hb
  have HR2 := Lib.hid h2
  obtain ⟨A1, c1, rfl, hc1, hr1⟩ := h1
  obtain ⟨A2, c2, rfl, hc2, hr2⟩ := h2
  have CG0 := Lib.hid (CF0.out A1 c1 w1 hr1)
  rw [wvs_length]
  clear hb hc1 hr1 hc2 hr2 C1 CF0
  go_wp2_with fail
  refine CG0.out.mono ?_
  rintro e w2 ⟨v3, rfl, h3, hb2⟩
  have HB := Lib.hid (HB.out.trans (hb2.mono HB.out.size))
  have HR2 := Lib.hid (HR2.out.grow hb2)
  obtain ⟨A3, c3, rfl, -, hr3⟩ := h3
  rw [wvs_length]
  obtain ⟨A4, c4, h4, -, hr4⟩ := HR2.out
  injection h4 with e1 e2 e3
  subst e1 e3
  have CE := Lib.hid (CL.out A3 c3 A2 c2 w2 hr3 hr4)
  clear hb2 hr3 hr4 e2 CG0 CL HR2
  go_wp2_with fail
  refine CE.out.mono ?_
  rintro e w9 ⟨v9, rfl, h9, hb9⟩
  have HB9 := Lib.hid (HB.out.trans (hb9.mono HB.out.size))
  have H9 := Lib.hid h9
  clear hb9 h9 CE HB
  go_wp2
  go_ret
  exact ⟨v9, rfl, H9.out, HB9.out⟩
set_option maxHeartbeats 1000000 in
set_option maxRecDepth 100000 in
theorem rDo2 {W : Nat} (hW : IsW W) (l : List UInt8) (v : Value) (w : World) (hv : IsBytes l v w) (hl : l.length ≤ 90000) :
    Calls Tryz.prog 17 #[v, .int .i64 (W : Int), .int .i64 2] w (NewBs w (through (secondW W) W l)) := by
  obtain ⟨A, c, rfl, hc, hr⟩ := hv
  have hp := hW.pos
  have C1 := Lib.hid (refTake_any hW A c l w hr hc (by omega))
  obtain ⟨ws, hws⟩ : ∃ ws, ws = wordsOf W l := ⟨_, rfl⟩
  obtain ⟨rs, hrs⟩ : ∃ rs, rs = restOf W l := ⟨_, rfl⟩
  rw [← hws, ← hrs] at C1
  have hwl : ws.length ≤ 90000 := by rw [hws, wordsOf_len]; exact Nat.le_trans (Nat.div_le_self _ _) hl
  have hrl : rs.length < 8 := by have := rest_lt (W := W) (by omega) l; rw [hrs]; omega
  have h64 : ∀ x ∈ ws, x < 18446744073709551616 := by rw [hws]; exact lt_64 hW (wordsOf_lt (W := W) (by omega) l)
  obtain ⟨X0, hX0⟩ : ∃ X0, X0 = diffW W ws := ⟨_, rfl⟩
  have hX064 : ∀ x ∈ X0, x < 18446744073709551616 := by rw [hX0]; exact lt_64 hW ((rfn_diff hW).2.2.1 ws)
  have hX0l : X0.length ≤ 90000 := by rw [hX0, (rfn_diff hW).2.1]; omega
  have cf0 := fun (A1 : Option Addr) (c1 : Nat) (w' : World) (h : Rd w' w'.heap.size A1 (wvs ws)) => (rfn_diff hW).2.2.2 A1 c1 ws w' h (by omega) h64
  rw [← hX0] at cf0
  have CF0 := Lib.hid cf0
  obtain ⟨X1, hX1⟩ : ∃ X1, X1 = diffW W X0 := ⟨_, rfl⟩
  have hX164 : ∀ x ∈ X1, x < 18446744073709551616 := by rw [hX1]; exact lt_64 hW ((rfn_diff hW).2.2.1 X0)
  have hX1l : X1.length ≤ 90000 := by rw [hX1, (rfn_diff hW).2.1]; omega
  have cf1 := fun (A1 : Option Addr) (c1 : Nat) (w' : World) (h : Rd w' w'.heap.size A1 (wvs X0)) => (rfn_diff hW).2.2.2 A1 c1 X0 w' h (by omega) hX064
  rw [← hX1] at cf1
  have CF1 := Lib.hid cf1
  have hth : through (secondW W) W l = layW W X1 ++ rs := by
    unfold through
    rw [← hws, ← hrs, hX1, hX0]
    rfl
  rw [hth]
  have CL := Lib.hid (fun (A1 : Option Addr) (c1 : Nat) (A2 : Option Addr) (c2 : Nat) (w' : World) (h : Rd w' w'.heap.size A1 (wvs X1)) (h2 : Rd w' w'.heap.size A2 (bvs rs)) => refLay_any W hW A1 X1.length c1 X1 A2 rs.length c2 rs w' h rfl hX164 h2 rfl (by omega) (by omega))
  clear hr hW h64 hws hrs hth hwl hrl hX0 hX064 hX0l cf0 hX1 hX164 hX1l cf1
  go_enter Tryz.func17, Tryz.ntmps17
  go_wp2_with fail
  refine C1.out.mono ?_
  rintro e w1 ⟨v1, v2, rfl, h1, h2, hb⟩
  have HB := Lib.hid hb
  have HR2 := Lib.hid h2
  obtain ⟨A1, c1, rfl, hc1, hr1⟩ := h1
  obtain ⟨A2, c2, rfl, hc2, hr2⟩ := h2
  have CG0 := Lib.hid (CF0.out A1 c1 w1 hr1)
  rw [wvs_length]
  clear hb hc1 hr1 hc2 hr2 C1 CF0
  go_wp2_with fail
  refine CG0.out.mono ?_
  rintro e w2 ⟨v3, rfl, h3, hb2⟩
  have HB := Lib.hid (HB.out.trans (hb2.mono HB.out.size))
  have HR2 := Lib.hid (HR2.out.grow hb2)
  obtain ⟨A3, c3, rfl, -, hr3⟩ := h3
  rw [wvs_length]
  have CG1 := Lib.hid (CF1.out A3 c3 w2 hr3)
  clear hb2 hr3 CG0 CF1
  go_wp2_with fail
  refine CG1.out.mono ?_
  rintro e w3 ⟨v3, rfl, h3, hb2⟩
  have HB := Lib.hid (HB.out.trans (hb2.mono HB.out.size))
  have HR2 := Lib.hid (HR2.out.grow hb2)
  obtain ⟨A3, c3, rfl, -, hr3⟩ := h3
  rw [wvs_length]
  obtain ⟨A4, c4, h4, -, hr4⟩ := HR2.out
  injection h4 with e1 e2 e3
  subst e1 e3
  have CE := Lib.hid (CL.out A3 c3 A2 c2 w3 hr3 hr4)
  clear hb2 hr3 hr4 e2 CG1 CL HR2
  go_wp2_with fail
  refine CE.out.mono ?_
  rintro e w9 ⟨v9, rfl, h9, hb9⟩
  have HB9 := Lib.hid (HB.out.trans (hb9.mono HB.out.size))
  have H9 := Lib.hid h9
  clear hb9 h9 CE HB
  go_wp2
  go_ret
  exact ⟨v9, rfl, H9.out, HB9.out⟩
set_option maxHeartbeats 1000000 in
set_option maxRecDepth 100000 in
theorem rDo3 {W : Nat} (hW : IsW W) (l : List UInt8) (v : Value) (w : World) (hv : IsBytes l v w) (hl : l.length ≤ 90000) :
    Calls Tryz.prog 17 #[v, .int .i64 (W : Int), .int .i64 3] w (NewBs w (through (foldW W) W l)) := by
  obtain ⟨A, c, rfl, hc, hr⟩ := hv
  have hp := hW.pos
  have C1 := Lib.hid (refTake_any hW A c l w hr hc (by omega))
  obtain ⟨ws, hws⟩ : ∃ ws, ws = wordsOf W l := ⟨_, rfl⟩
  obtain ⟨rs, hrs⟩ : ∃ rs, rs = restOf W l := ⟨_, rfl⟩
  rw [← hws, ← hrs] at C1
  have hwl : ws.length ≤ 90000 := by rw [hws, wordsOf_len]; exact Nat.le_trans (Nat.div_le_self _ _) hl
  have hrl : rs.length < 8 := by have := rest_lt (W := W) (by omega) l; rw [hrs]; omega
  have h64 : ∀ x ∈ ws, x < 18446744073709551616 := by rw [hws]; exact lt_64 hW (wordsOf_lt (W := W) (by omega) l)
  obtain ⟨X0, hX0⟩ : ∃ X0, X0 = foldW W ws := ⟨_, rfl⟩
  have hX064 : ∀ x ∈ X0, x < 18446744073709551616 := by rw [hX0]; exact lt_64 hW ((rfn_fold hW).2.2.1 ws)
  have hX0l : X0.length ≤ 90000 := by rw [hX0, (rfn_fold hW).2.1]; omega
  have cf0 := fun (A1 : Option Addr) (c1 : Nat) (w' : World) (h : Rd w' w'.heap.size A1 (wvs ws)) => (rfn_fold hW).2.2.2 A1 c1 ws w' h (by omega) h64
  rw [← hX0] at cf0
  have CF0 := Lib.hid cf0
  have hth : through (foldW W) W l = layW W X0 ++ rs := by
    unfold through
    rw [← hws, ← hrs, hX0]
  rw [hth]
  have CL := Lib.hid (fun (A1 : Option Addr) (c1 : Nat) (A2 : Option Addr) (c2 : Nat) (w' : World) (h : Rd w' w'.heap.size A1 (wvs X0)) (h2 : Rd w' w'.heap.size A2 (bvs rs)) => refLay_any W hW A1 X0.length c1 X0 A2 rs.length c2 rs w' h rfl hX064 h2 rfl (by omega) (by omega))
  clear hr hW h64 hws hrs hth hwl hrl hX0 hX064 hX0l cf0
  go_enter Tryz.func17, Tryz.ntmps17
  go_wp2_with fail
  refine C1.out.mono ?_
  rintro e w1 ⟨v1, v2, rfl, h1, h2, hb⟩
  have HB := Lib.hid hb
  have HR2 := Lib.hid h2
  obtain ⟨A1, c1, rfl, hc1, hr1⟩ := h1
  obtain ⟨A2, c2, rfl, hc2, hr2⟩ := h2
  have CG0 := Lib.hid (CF0.out A1 c1 w1 hr1)
  rw [wvs_length]
  clear hb hc1 hr1 hc2 hr2 C1 CF0
  go_wp2_with fail
  refine CG0.out.mono ?_
  rintro e w2 ⟨v3, rfl, h3, hb2⟩
  have HB := Lib.hid (HB.out.trans (hb2.mono HB.out.size))
  have HR2 := Lib.hid (HR2.out.grow hb2)
  obtain ⟨A3, c3, rfl, -, hr3⟩ := h3
  rw [wvs_length]
  obtain ⟨A4, c4, h4, -, hr4⟩ := HR2.out
  injection h4 with e1 e2 e3
  subst e1 e3
  have CE := Lib.hid (CL.out A3 c3 A2 c2 w2 hr3 hr4)
  clear hb2 hr3 hr4 e2 CG0 CL HR2
  go_wp2_with fail
  refine CE.out.mono ?_
  rintro e w9 ⟨v9, rfl, h9, hb9⟩
  have HB9 := Lib.hid (HB.out.trans (hb9.mono HB.out.size))
  have H9 := Lib.hid h9
  clear hb9 h9 CE HB
  go_wp2
  go_ret
  exact ⟨v9, rfl, H9.out, HB9.out⟩
set_option maxHeartbeats 1000000 in
set_option maxRecDepth 100000 in
theorem rDo4 {W : Nat} (hW : IsW W) (l : List UInt8) (v : Value) (w : World) (hv : IsBytes l v w) (hl : l.length ≤ 90000) :
    Calls Tryz.prog 17 #[v, .int .i64 (W : Int), .int .i64 4] w (NewBs w (through (flipW W) W l)) := by
  obtain ⟨A, c, rfl, hc, hr⟩ := hv
  have hp := hW.pos
  have C1 := Lib.hid (refTake_any hW A c l w hr hc (by omega))
  obtain ⟨ws, hws⟩ : ∃ ws, ws = wordsOf W l := ⟨_, rfl⟩
  obtain ⟨rs, hrs⟩ : ∃ rs, rs = restOf W l := ⟨_, rfl⟩
  rw [← hws, ← hrs] at C1
  have hwl : ws.length ≤ 90000 := by rw [hws, wordsOf_len]; exact Nat.le_trans (Nat.div_le_self _ _) hl
  have hrl : rs.length < 8 := by have := rest_lt (W := W) (by omega) l; rw [hrs]; omega
  have h64 : ∀ x ∈ ws, x < 18446744073709551616 := by rw [hws]; exact lt_64 hW (wordsOf_lt (W := W) (by omega) l)
  obtain ⟨X0, hX0⟩ : ∃ X0, X0 = flipW W ws := ⟨_, rfl⟩
  have hX064 : ∀ x ∈ X0, x < 18446744073709551616 := by rw [hX0]; exact lt_64 hW ((rfn_flip hW).2.2.1 ws)
  have hX0l : X0.length ≤ 90000 := by rw [hX0, (rfn_flip hW).2.1]; omega
  have cf0 := fun (A1 : Option Addr) (c1 : Nat) (w' : World) (h : Rd w' w'.heap.size A1 (wvs ws)) => (rfn_flip hW).2.2.2 A1 c1 ws w' h (by omega) h64
  rw [← hX0] at cf0
  have CF0 := Lib.hid cf0
  have hth : through (flipW W) W l = layW W X0 ++ rs := by
    unfold through
    rw [← hws, ← hrs, hX0]
  rw [hth]
  have CL := Lib.hid (fun (A1 : Option Addr) (c1 : Nat) (A2 : Option Addr) (c2 : Nat) (w' : World) (h : Rd w' w'.heap.size A1 (wvs X0)) (h2 : Rd w' w'.heap.size A2 (bvs rs)) => refLay_any W hW A1 X0.length c1 X0 A2 rs.length c2 rs w' h rfl hX064 h2 rfl (by omega) (by omega))
  clear hr hW h64 hws hrs hth hwl hrl hX0 hX064 hX0l cf0
  go_enter Tryz.func17, Tryz.ntmps17
  go_wp2_with fail
  refine C1.out.mono ?_
  rintro e w1 ⟨v1, v2, rfl, h1, h2, hb⟩
  have HB := Lib.hid hb
  have HR2 := Lib.hid h2
  obtain ⟨A1, c1, rfl, hc1, hr1⟩ := h1
  obtain ⟨A2, c2, rfl, hc2, hr2⟩ := h2
  have CG0 := Lib.hid (CF0.out A1 c1 w1 hr1)
  rw [wvs_length]
  clear hb hc1 hr1 hc2 hr2 C1 CF0
  go_wp2_with fail
  refine CG0.out.mono ?_
  rintro e w2 ⟨v3, rfl, h3, hb2⟩
  have HB := Lib.hid (HB.out.trans (hb2.mono HB.out.size))
  have HR2 := Lib.hid (HR2.out.grow hb2)
  obtain ⟨A3, c3, rfl, -, hr3⟩ := h3
  rw [wvs_length]
  obtain ⟨A4, c4, h4, -, hr4⟩ := HR2.out
  injection h4 with e1 e2 e3
  subst e1 e3
  have CE := Lib.hid (CL.out A3 c3 A2 c2 w2 hr3 hr4)
  clear hb2 hr3 hr4 e2 CG0 CL HR2
  go_wp2_with fail
  refine CE.out.mono ?_
  rintro e w9 ⟨v9, rfl, h9, hb9⟩
  have HB9 := Lib.hid (HB.out.trans (hb9.mono HB.out.size))
  have H9 := Lib.hid h9
  clear hb9 h9 CE HB
  go_wp2
  go_ret
  exact ⟨v9, rfl, H9.out, HB9.out⟩
set_option maxHeartbeats 1000000 in
set_option maxRecDepth 100000 in
theorem rUn1 {W : Nat} (hW : IsW W) (l : List UInt8) (v : Value) (raw : Int) (w : World) (hv : IsBytes l v w) (hl : l.length ≤ 90000) :
    Calls Tryz.prog 21 #[v, .int .i64 (W : Int), .int .i64 1, .int .i64 raw] w (fun e w' => ∃ u, e = .returned (.tuple #[u, .bool true]) ∧ IsBytes (through (sumW W) W l) u w' ∧ Below w.heap.size w w') := by
  obtain ⟨A, c, rfl, hc, hr⟩ := hv
  have hp := hW.pos
  have C1 := Lib.hid (refTake_any hW A c l w hr hc (by omega))
  obtain ⟨ws, hws⟩ : ∃ ws, ws = wordsOf W l := ⟨_, rfl⟩
  obtain ⟨rs, hrs⟩ : ∃ rs, rs = restOf W l := ⟨_, rfl⟩
  rw [← hws, ← hrs] at C1
  have hwl : ws.length ≤ 90000 := by rw [hws, wordsOf_len]; exact Nat.le_trans (Nat.div_le_self _ _) hl
  have hrl : rs.length < 8 := by have := rest_lt (W := W) (by omega) l; rw [hrs]; omega
  have h64 : ∀ x ∈ ws, x < 18446744073709551616 := by rw [hws]; exact lt_64 hW (wordsOf_lt (W := W) (by omega) l)
  obtain ⟨X0, hX0⟩ : ∃ X0, X0 = sumW W ws := ⟨_, rfl⟩
  have hX064 : ∀ x ∈ X0, x < 18446744073709551616 := by rw [hX0]; exact lt_64 hW ((rfn_sum hW).2.2.1 ws)
  have hX0l : X0.length ≤ 90000 := by rw [hX0, (rfn_sum hW).2.1]; omega
  have cf0 := fun (A1 : Option Addr) (c1 : Nat) (w' : World) (h : Rd w' w'.heap.size A1 (wvs ws)) => (rfn_sum hW).2.2.2 A1 c1 ws w' h (by omega) h64
  rw [← hX0] at cf0
  have CF0 := Lib.hid cf0
  have hth : through (sumW W) W l = layW W X0 ++ rs := by
    unfold through
    rw [← hws, ← hrs, hX0]
  rw [hth]
  have CL := Lib.hid (fun (A1 : Option Addr) (c1 : Nat) (A2 : Option Addr) (c2 : Nat) (w' : World) (h : Rd w' w'.heap.size A1 (wvs X0)) (h2 : Rd w' w'.heap.size A2 (bvs rs)) => refLay_any W hW A1 X0.length c1 X0 A2 rs.length c2 rs w' h rfl hX064 h2 rfl (by omega) (by omega))
  clear hr hW h64 hws hrs hth hwl hrl hX0 hX064 hX0l cf0
  go_enter Tryz.func21, Tryz.ntmps21
  go_wp2_with fail
  refine C1.out.mono ?_
  rintro e w1 ⟨v1, v2, rfl, h1, h2, hb⟩
  have HB := Lib.hid hb
  have HR2 := Lib.hid h2
  obtain ⟨A1, c1, rfl, hc1, hr1⟩ := h1
  obtain ⟨A2, c2, rfl, hc2, hr2⟩ := h2
  have CG0 := Lib.hid (CF0.out A1 c1 w1 hr1)
  rw [wvs_length]
  clear hb hc1 hr1 hc2 hr2 C1 CF0
  go_wp2_with fail
  refine CG0.out.mono ?_
  rintro e w2 ⟨v3, rfl, h3, hb2⟩
  have HB := Lib.hid (HB.out.trans (hb2.mono HB.out.size))
  have HR2 := Lib.hid (HR2.out.grow hb2)
  obtain ⟨A3, c3, rfl, -, hr3⟩ := h3
  rw [wvs_length]
  obtain ⟨A4, c4, h4, -, hr4⟩ := HR2.out
  injection h4 with e1 e2 e3
  subst e1 e3
  have CE := Lib.hid (CL.out A3 c3 A2 c2 w2 hr3 hr4)
  clear hb2 hr3 hr4 e2 CG0 CL HR2
  go_wp2_with fail
  refine CE.out.mono ?_
  rintro e w9 ⟨v9, rfl, h9, hb9⟩
  have HB9 := Lib.hid (HB.out.trans (hb9.mono HB.out.size))
  have H9 := Lib.hid h9
  clear hb9 h9 CE HB
  go_wp2
  go_ret2
  exact ⟨v9, rfl, H9.out, HB9.out⟩
set_option maxHeartbeats 1000000 in
set_option maxRecDepth 100000 in
theorem rUn2 {W : Nat} (hW : IsW W) (l : List UInt8) (v : Value) (raw : Int) (w : World) (hv : IsBytes l v w) (hl : l.length ≤ 90000) :
    Calls Tryz.prog 21 #[v, .int .i64 (W : Int), .int .i64 2, .int .i64 raw] w (fun e w' => ∃ u, e = .returned (.tuple #[u, .bool true]) ∧ IsBytes (through (twiceW W) W l) u w' ∧ Below w.heap.size w w') := by
  obtain ⟨A, c, rfl, hc, hr⟩ := hv
  have hp := hW.pos
  have C1 := Lib.hid (refTake_any hW A c l w hr hc (by omega))
  obtain ⟨ws, hws⟩ : ∃ ws, ws = wordsOf W l := ⟨_, rfl⟩
  obtain ⟨rs, hrs⟩ : ∃ rs, rs = restOf W l := ⟨_, rfl⟩
  rw [← hws, ← hrs] at C1
  have hwl : ws.length ≤ 90000 := by rw [hws, wordsOf_len]; exact Nat.le_trans (Nat.div_le_self _ _) hl
  have hrl : rs.length < 8 := by have := rest_lt (W := W) (by omega) l; rw [hrs]; omega
  have h64 : ∀ x ∈ ws, x < 18446744073709551616 := by rw [hws]; exact lt_64 hW (wordsOf_lt (W := W) (by omega) l)
  obtain ⟨X0, hX0⟩ : ∃ X0, X0 = sumW W ws := ⟨_, rfl⟩
  have hX064 : ∀ x ∈ X0, x < 18446744073709551616 := by rw [hX0]; exact lt_64 hW ((rfn_sum hW).2.2.1 ws)
  have hX0l : X0.length ≤ 90000 := by rw [hX0, (rfn_sum hW).2.1]; omega
  have cf0 := fun (A1 : Option Addr) (c1 : Nat) (w' : World) (h : Rd w' w'.heap.size A1 (wvs ws)) => (rfn_sum hW).2.2.2 A1 c1 ws w' h (by omega) h64
  rw [← hX0] at cf0
  have CF0 := Lib.hid cf0
  obtain ⟨X1, hX1⟩ : ∃ X1, X1 = sumW W X0 := ⟨_, rfl⟩
  have hX164 : ∀ x ∈ X1, x < 18446744073709551616 := by rw [hX1]; exact lt_64 hW ((rfn_sum hW).2.2.1 X0)
  have hX1l : X1.length ≤ 90000 := by rw [hX1, (rfn_sum hW).2.1]; omega
  have cf1 := fun (A1 : Option Addr) (c1 : Nat) (w' : World) (h : Rd w' w'.heap.size A1 (wvs X0)) => (rfn_sum hW).2.2.2 A1 c1 X0 w' h (by omega) hX064
  rw [← hX1] at cf1
  have CF1 := Lib.hid cf1
  have hth : through (twiceW W) W l = layW W X1 ++ rs := by
    unfold through
    rw [← hws, ← hrs, hX1, hX0]
    rfl
  rw [hth]
  have CL := Lib.hid (fun (A1 : Option Addr) (c1 : Nat) (A2 : Option Addr) (c2 : Nat) (w' : World) (h : Rd w' w'.heap.size A1 (wvs X1)) (h2 : Rd w' w'.heap.size A2 (bvs rs)) => refLay_any W hW A1 X1.length c1 X1 A2 rs.length c2 rs w' h rfl hX164 h2 rfl (by omega) (by omega))
  clear hr hW h64 hws hrs hth hwl hrl hX0 hX064 hX0l cf0 hX1 hX164 hX1l cf1
  go_enter Tryz.func21, Tryz.ntmps21
  go_wp2_with fail
  refine C1.out.mono ?_
  rintro e w1 ⟨v1, v2, rfl, h1, h2, hb⟩
  have HB := Lib.hid hb
  have HR2 := Lib.hid h2
  obtain ⟨A1, c1, rfl, hc1, hr1⟩ := h1
  obtain ⟨A2, c2, rfl, hc2, hr2⟩ := h2
  have CG0 := Lib.hid (CF0.out A1 c1 w1 hr1)
  rw [wvs_length]
  clear hb hc1 hr1 hc2 hr2 C1 CF0
  go_wp2_with fail
  refine CG0.out.mono ?_
  rintro e w2 ⟨v3, rfl, h3, hb2⟩
  have HB := Lib.hid (HB.out.trans (hb2.mono HB.out.size))
  have HR2 := Lib.hid (HR2.out.grow hb2)
  obtain ⟨A3, c3, rfl, -, hr3⟩ := h3
  rw [wvs_length]
  have CG1 := Lib.hid (CF1.out A3 c3 w2 hr3)
  clear hb2 hr3 CG0 CF1
  go_wp2_with fail
  refine CG1.out.mono ?_
  rintro e w3 ⟨v3, rfl, h3, hb2⟩
  have HB := Lib.hid (HB.out.trans (hb2.mono HB.out.size))
  have HR2 := Lib.hid (HR2.out.grow hb2)
  obtain ⟨A3, c3, rfl, -, hr3⟩ := h3
  rw [wvs_length]
  obtain ⟨A4, c4, h4, -, hr4⟩ := HR2.out
  injection h4 with e1 e2 e3
  subst e1 e3
  have CE := Lib.hid (CL.out A3 c3 A2 c2 w3 hr3 hr4)
  clear hb2 hr3 hr4 e2 CG1 CL HR2
  go_wp2_with fail
  refine CE.out.mono ?_
  rintro e w9 ⟨v9, rfl, h9, hb9⟩
  have HB9 := Lib.hid (HB.out.trans (hb9.mono HB.out.size))
  have H9 := Lib.hid h9
  clear hb9 h9 CE HB
  go_wp2
  go_ret2
  exact ⟨v9, rfl, H9.out, HB9.out⟩
set_option maxHeartbeats 1000000 in
set_option maxRecDepth 100000 in
theorem rUn3 {W : Nat} (hW : IsW W) (l : List UInt8) (v : Value) (raw : Int) (w : World) (hv : IsBytes l v w) (hl : l.length ≤ 90000) :
    Calls Tryz.prog 21 #[v, .int .i64 (W : Int), .int .i64 3, .int .i64 raw] w (fun e w' => ∃ u, e = .returned (.tuple #[u, .bool true]) ∧ IsBytes (through (unfoldW W) W l) u w' ∧ Below w.heap.size w w') := by
  obtain ⟨A, c, rfl, hc, hr⟩ := hv
  have hp := hW.pos
  have C1 := Lib.hid (refTake_any hW A c l w hr hc (by omega))
  obtain ⟨ws, hws⟩ : ∃ ws, ws = wordsOf W l := ⟨_, rfl⟩
  obtain ⟨rs, hrs⟩ : ∃ rs, rs = restOf W l := ⟨_, rfl⟩
  rw [← hws, ← hrs] at C1
  have hwl : ws.length ≤ 90000 := by rw [hws, wordsOf_len]; exact Nat.le_trans (Nat.div_le_self _ _) hl
  have hrl : rs.length < 8 := by have := rest_lt (W := W) (by omega) l; rw [hrs]; omega
  have h64 : ∀ x ∈ ws, x < 18446744073709551616 := by rw [hws]; exact lt_64 hW (wordsOf_lt (W := W) (by omega) l)
  obtain ⟨X0, hX0⟩ : ∃ X0, X0 = unfoldW W ws := ⟨_, rfl⟩
  have hX064 : ∀ x ∈ X0, x < 18446744073709551616 := by rw [hX0]; exact lt_64 hW ((rfn_unfold hW).2.2.1 ws)
  have hX0l : X0.length ≤ 90000 := by rw [hX0, (rfn_unfold hW).2.1]; omega
  have cf0 := fun (A1 : Option Addr) (c1 : Nat) (w' : World) (h : Rd w' w'.heap.size A1 (wvs ws)) => (rfn_unfold hW).2.2.2 A1 c1 ws w' h (by omega) h64
  rw [← hX0] at cf0
  have CF0 := Lib.hid cf0
  have hth : through (unfoldW W) W l = layW W X0 ++ rs := by
    unfold through
    rw [← hws, ← hrs, hX0]
  rw [hth]
  have CL := Lib.hid (fun (A1 : Option Addr) (c1 : Nat) (A2 : Option Addr) (c2 : Nat) (w' : World) (h : Rd w' w'.heap.size A1 (wvs X0)) (h2 : Rd w' w'.heap.size A2 (bvs rs)) => refLay_any W hW A1 X0.length c1 X0 A2 rs.length c2 rs w' h rfl hX064 h2 rfl (by omega) (by omega))
  clear hr hW h64 hws hrs hth hwl hrl hX0 hX064 hX0l cf0
  go_enter Tryz.func21, Tryz.ntmps21
  go_wp2_with fail
  refine C1.out.mono ?_
  rintro e w1 ⟨v1, v2, rfl, h1, h2, hb⟩
  have HB := Lib.hid hb
  have HR2 := Lib.hid h2
  obtain ⟨A1, c1, rfl, hc1, hr1⟩ := h1
  obtain ⟨A2, c2, rfl, hc2, hr2⟩ := h2
  have CG0 := Lib.hid (CF0.out A1 c1 w1 hr1)
  rw [wvs_length]
  clear hb hc1 hr1 hc2 hr2 C1 CF0
  go_wp2_with fail
  refine CG0.out.mono ?_
  rintro e w2 ⟨v3, rfl, h3, hb2⟩
  have HB := Lib.hid (HB.out.trans (hb2.mono HB.out.size))
  have HR2 := Lib.hid (HR2.out.grow hb2)
  obtain ⟨A3, c3, rfl, -, hr3⟩ := h3
  rw [wvs_length]
  obtain ⟨A4, c4, h4, -, hr4⟩ := HR2.out
  injection h4 with e1 e2 e3
  subst e1 e3
  have CE := Lib.hid (CL.out A3 c3 A2 c2 w2 hr3 hr4)
  clear hb2 hr3 hr4 e2 CG0 CL HR2
  go_wp2_with fail
  refine CE.out.mono ?_
  rintro e w9 ⟨v9, rfl, h9, hb9⟩
  have HB9 := Lib.hid (HB.out.trans (hb9.mono HB.out.size))
  have H9 := Lib.hid h9
  clear hb9 h9 CE HB
  go_wp2
  go_ret2
  exact ⟨v9, rfl, H9.out, HB9.out⟩
set_option maxHeartbeats 1000000 in
set_option maxRecDepth 100000 in
theorem rUn4 {W : Nat} (hW : IsW W) (l : List UInt8) (v : Value) (raw : Int) (w : World) (hv : IsBytes l v w) (hl : l.length ≤ 90000) :
    Calls Tryz.prog 21 #[v, .int .i64 (W : Int), .int .i64 4, .int .i64 raw] w (fun e w' => ∃ u, e = .returned (.tuple #[u, .bool true]) ∧ IsBytes (through (backW W) W l) u w' ∧ Below w.heap.size w w') := by
  obtain ⟨A, c, rfl, hc, hr⟩ := hv
  have hp := hW.pos
  have C1 := Lib.hid (refTake_any hW A c l w hr hc (by omega))
  obtain ⟨ws, hws⟩ : ∃ ws, ws = wordsOf W l := ⟨_, rfl⟩
  obtain ⟨rs, hrs⟩ : ∃ rs, rs = restOf W l := ⟨_, rfl⟩
  rw [← hws, ← hrs] at C1
  have hwl : ws.length ≤ 90000 := by rw [hws, wordsOf_len]; exact Nat.le_trans (Nat.div_le_self _ _) hl
  have hrl : rs.length < 8 := by have := rest_lt (W := W) (by omega) l; rw [hrs]; omega
  have h64 : ∀ x ∈ ws, x < 18446744073709551616 := by rw [hws]; exact lt_64 hW (wordsOf_lt (W := W) (by omega) l)
  obtain ⟨X0, hX0⟩ : ∃ X0, X0 = backW W ws := ⟨_, rfl⟩
  have hX064 : ∀ x ∈ X0, x < 18446744073709551616 := by rw [hX0]; exact lt_64 hW ((rfn_back hW).2.2.1 ws)
  have hX0l : X0.length ≤ 90000 := by rw [hX0, (rfn_back hW).2.1]; omega
  have cf0 := fun (A1 : Option Addr) (c1 : Nat) (w' : World) (h : Rd w' w'.heap.size A1 (wvs ws)) => (rfn_back hW).2.2.2 A1 c1 ws w' h (by omega) h64
  rw [← hX0] at cf0
  have CF0 := Lib.hid cf0
  have hth : through (backW W) W l = layW W X0 ++ rs := by
    unfold through
    rw [← hws, ← hrs, hX0]
  rw [hth]
  have CL := Lib.hid (fun (A1 : Option Addr) (c1 : Nat) (A2 : Option Addr) (c2 : Nat) (w' : World) (h : Rd w' w'.heap.size A1 (wvs X0)) (h2 : Rd w' w'.heap.size A2 (bvs rs)) => refLay_any W hW A1 X0.length c1 X0 A2 rs.length c2 rs w' h rfl hX064 h2 rfl (by omega) (by omega))
  clear hr hW h64 hws hrs hth hwl hrl hX0 hX064 hX0l cf0
  go_enter Tryz.func21, Tryz.ntmps21
  go_wp2_with fail
  refine C1.out.mono ?_
  rintro e w1 ⟨v1, v2, rfl, h1, h2, hb⟩
  have HB := Lib.hid hb
  have HR2 := Lib.hid h2
  obtain ⟨A1, c1, rfl, hc1, hr1⟩ := h1
  obtain ⟨A2, c2, rfl, hc2, hr2⟩ := h2
  have CG0 := Lib.hid (CF0.out A1 c1 w1 hr1)
  rw [wvs_length]
  clear hb hc1 hr1 hc2 hr2 C1 CF0
  go_wp2_with fail
  refine CG0.out.mono ?_
  rintro e w2 ⟨v3, rfl, h3, hb2⟩
  have HB := Lib.hid (HB.out.trans (hb2.mono HB.out.size))
  have HR2 := Lib.hid (HR2.out.grow hb2)
  obtain ⟨A3, c3, rfl, -, hr3⟩ := h3
  rw [wvs_length]
  obtain ⟨A4, c4, h4, -, hr4⟩ := HR2.out
  injection h4 with e1 e2 e3
  subst e1 e3
  have CE := Lib.hid (CL.out A3 c3 A2 c2 w2 hr3 hr4)
  clear hb2 hr3 hr4 e2 CG0 CL HR2
  go_wp2_with fail
  refine CE.out.mono ?_
  rintro e w9 ⟨v9, rfl, h9, hb9⟩
  have HB9 := Lib.hid (HB.out.trans (hb9.mono HB.out.size))
  have H9 := Lib.hid h9
  clear hb9 h9 CE HB
  go_wp2
  go_ret2
  exact ⟨v9, rfl, H9.out, HB9.out⟩
end Go.Proofs.YtcenbaajojdjlaaGreatDoor
