/-
  Layer 29: the reference's Get. · Layer 29: what Get tells, the program's way and the reference's; what was put is got. Plain. · leb.Get of what lies from a place on.
-/
import Derived.Test.YtlbpolkmhhmkgaaQ09
import Derived.Test.YtlbpolkmhhmkgaaQ12
import Derived.Test.YtlbpolkmhhmkgaaQ13
namespace Go.Proofs.Ytlbpolkmhhmkgaa
open Go.RowKit Go.Sort

theorem begB_yes {l : List UInt8} (h : ∀ i, i < 4 → i < l.length → l.getD i 0 = lettersL.getD i 0) : begB l = true := by
  have h0 := h 0 (by decide)
  have h1 := h 1 (by decide)
  have h2 := h 2 (by decide)
  have h3 := h 3 (by decide)
  match l with
  | [] => rfl
  | [a] =>
    obtain rfl : a = 87 := h0 (by simp)
    rfl
  | [a, b] =>
    obtain rfl : a = 87 := h0 (by simp)
    obtain rfl : b = 80 := h1 (by simp)
    rfl
  | [a, b, c] =>
    obtain rfl : a = 87 := h0 (by simp)
    obtain rfl : b = 80 := h1 (by simp)
    obtain rfl : c = 82 := h2 (by simp)
    rfl
  | a :: b :: c :: d :: t =>
    obtain rfl : a = 87 := h0 (by simp)
    obtain rfl : b = 80 := h1 (by simp)
    obtain rfl : c = 82 := h2 (by simp)
    obtain rfl : d = 49 := h3 (by simp)
    unfold begB
    rw [Nat.min_eq_right (by simp)]
    rfl
theorem begB_no {l : List UInt8} {k : Nat} (h4 : k < 4) (hk : k < l.length) (hne : l.getD k 0 ≠ lettersL.getD k 0) : begB l = false := by
  unfold begB
  rw [beq_eq_false_iff_ne]
  intro e
  have h := congrArg (fun x => x.getD k 0) e
  simp only [List.getD_eq_getElem?_getD] at h hne
  rw [List.getElem?_take_of_lt h4, List.getElem?_take_of_lt (by omega)] at h
  exact hne h
def letC : List Value := [.int .u8 87, .int .u8 80, .int .u8 82, .int .u8 49]
theorem letC_at {k : Nat} (h : k < 4) : letC[k]? = some (.int .u8 ((lettersL.getD k 0).toNat : Int)) := by
  rcases (show k = 0 ∨ k = 1 ∨ k = 2 ∨ k = 3 by omega) with rfl | rfl | rfl | rfl <;> rfl
/-- What the reference's Get tells of bytes whose Block is told so. -/
def getF (l : List UInt8) (m j e : Nat) : List Int × Nat × Nat :=
  if begB l = false then ([0, 0, 0, 0], 0, 12)
  else if l.length < 7 then ([0, 0, 0, 0], 0, 11)
  else if e = 21 then ([0, 0, 0, 0], 0, 13)
  else if e ≠ 0 ∨ l.length < 7 + j + 4 then ([0, 0, 0, 0], 0, 11)
  else if 16777216 < m then ([0, 0, 0, 0], 0, 13)
  else if mayO (m : Int) ((l.getD 4 0).toNat : Int) ((l.getD 5 0).toNat : Int) ((l.getD 6 0).toNat : Int) = false then ([0, 0, 0, 0], 0, 13)
  else if (l.take (7 + j + 4) == headS m (l.getD 4 0).toNat (l.getD 5 0).toNat (l.getD 6 0).toNat) = false then ([0, 0, 0, 0], 0, 13)
  else ([(m : Int), ((l.getD 4 0).toNat : Int), ((l.getD 5 0).toNat : Int), ((l.getD 6 0).toNat : Int)], 7 + j + 4, 0)
/-- What holds at the head of a round over the letters. -/
def LetP (l : List UInt8) (n : Nat) (W : World) (R M : Nat) (A : Option Addr) (iv : Value) (wr : World) : Prop :=
  ∃ k : Nat, k ≤ 4 ∧ k ≤ n ∧ iv = .int .i64 (k : Int) ∧ (∀ i, i < k → l.getD i 0 = lettersL.getD i 0) ∧ Blk wr R 25 [.int .i64 0, .int .i64 0, .int .i64 0, .int .i64 0] ∧ Blk wr M 73 letC ∧ Rd wr wr.heap.size A (bvs l) ∧ Below W.heap.size W wr
set_option maxRecDepth 100000 in
set_option maxHeartbeats 4000000 in
theorem refHGet_any (A : Option Addr) (n c : Nat) (l : List UInt8) (W : World) (hr : Rd W W.heap.size A (bvs l)) (hn : l.length = n) (hnc : n ≤ c) (hn1 : n ≤ 10000) {m j e : Nat} (hg : lget (l.drop 7) = (m, j, e)) :
    Calls Try.prog 17 #[.slice A n c] W (GetOut W (getF l m j e)) := by
  obtain ⟨r, hr0⟩ : ∃ r, r = getF l m j e := ⟨_, rfl⟩
  rw [← hr0]
  have HR0 := Lib.hid hr0
  have hlg := lget_told (l.drop 7)
  have hme : m < 18446744073709551616 ∧ j ≤ n ∧ (e = 0 → 7 + j ≤ n ∧ 0 < j) ∧ (e = 0 ∨ e = 11 ∨ e = 21) := by
    rcases hlg with ⟨q, h1, h2, h3, -⟩ | h1 | h1
    · rw [hg] at h1
      simp only [Prod.mk.injEq] at h1
      obtain ⟨rfl, rfl, rfl⟩ := h1
      have := lput_pos m
      rw [List.length_drop] at h3
      exact ⟨h2, by omega, fun _ => ⟨by omega, by omega⟩, .inl rfl⟩
    · rw [hg] at h1
      simp only [Prod.mk.injEq] at h1
      obtain ⟨rfl, rfl, rfl⟩ := h1
      exact ⟨by decide, by omega, fun h => (by omega), .inr (.inl rfl)⟩
    · rw [hg] at h1
      simp only [Prod.mk.injEq] at h1
      obtain ⟨rfl, rfl, rfl⟩ := h1
      exact ⟨by decide, by omega, fun h => (by omega), .inr (.inr rfl)⟩
  have CLG := Lib.hid (fun A2 c2 w (h7 : 7 ≤ n) (hr : Rd w w.heap.size A2 (bvs (l.drop 7))) => refGet_any A2 (n - 7) c2 (l.drop 7) w hr (by rw [List.length_drop, hn]) (by omega) m j e hg)
  have HN := Lib.hid hn
  obtain ⟨hm1, hj1, hE, he3⟩ := hme
  have HE := Lib.hid hE
  have HE3 := Lib.hid he3
  have hRb := heap_alloc_new W (.cells #[.int .i64 0, .int .i64 0, .int .i64 0, .int .i64 0] 25)
  obtain ⟨R, hRR⟩ : ∃ R, R = W.heap.size := ⟨_, rfl⟩
  have HRT := Lib.hid hRR
  obtain ⟨w1, hw1⟩ : ∃ w1, w1 = (W.alloc (.cells #[.int .i64 0, .int .i64 0, .int .i64 0, .int .i64 0] 25)).alloc (.cells letC.toArray 73) := ⟨_, rfl⟩
  have hB1 := ((Below.refl W.heap.size W).alloc (Nat.le_refl _) (.cells #[.int .i64 0, .int .i64 0, .int .i64 0, .int .i64 0] 25)).alloc (by simp) (.cells letC.toArray 73)
  have hM1 : Blk w1 (W.heap.size + 1) 73 letC := by
    rw [hw1]
    have := heap_alloc_new (W.alloc (.cells #[.int .i64 0, .int .i64 0, .int .i64 0, .int .i64 0] 25)) (.cells letC.toArray 73)
    simpa [Blk] using this
  have hR1 : Blk w1 W.heap.size 25 [.int .i64 0, .int .i64 0, .int .i64 0, .int .i64 0] := by
    rw [hw1]
    exact Blk.alloc_ hRb _
  rw [← hw1] at hB1
  have HB1 := Lib.hid hB1
  have HR1 := Lib.hid hR1
  have HM1 := Lib.hid hM1
  have HRD1 := Lib.hid ((hr.below hB1).more hB1.size)
  have HW1 := Lib.hid (show (W.alloc (.cells #[.int .i64 0, .int .i64 0, .int .i64 0, .int .i64 0] 25)).alloc (.cells #[.int .u8 87, .int .u8 80, .int .u8 82, .int .u8 49] 73) = w1 by rw [hw1]; rfl)
  clear hw1 hB1 hRb hr hr0 hg hlg hE he3 hM1 hR1
  go_enter Try.func17, Try.ntmps17
  go_wp2_with fail
  rw [HW1.out]
  rw [← HRT.out] at HR1 HM1 ⊢
  obtain ⟨M, hM⟩ : ∃ M, M = R + 1 := ⟨_, rfl⟩
  rw [← hM] at HM1 ⊢
  clear hRR hM HW1
  go_loopw [6] (fun iv wr => LetP l n W R M A iv wr) (fun iv _ => 4 - (intOf iv).toNat)
  case atStart => exact ⟨0, by decide, Nat.zero_le _, rfl, fun i h => absurd h (Nat.not_lt_zero _), HR1.out, HM1.out, HRD1.out, HB1.out⟩
  case round =>
    obtain ⟨k, hk4, hkn, rfl, hall, hR3, hM3, hRD3, hB3⟩ := hrel
    have HALL := Lib.hid hall
    have HR3 := Lib.hid hR3
    have HM3 := Lib.hid hM3
    have HRD3 := Lib.hid hRD3
    have HB3 := Lib.hid hB3
    clear hall hR3 hM3 hRD3 hB3
    by_cases hin : k < 4 ∧ k < n
    · have h4i : (k : Int) < 4 := by omega
      have hni : (k : Int) < (n : Int) := by omega
      obtain ⟨ab, ao, rfl, hbl, hcell⟩ := HRD3.out.at_ (by rw [bvs_length]; omega)
      have hck := hcell k (.int .u8 ((l.getD k 0).toNat : Int)) (by
        unfold bvs
        rw [List.getElem?_map, List.getD_eq_getElem?_getD, List.getElem?_eq_getElem (by omega)]
        rfl)
      have hcm := HM3.out.cell k
      rw [letC_at hin.1] at hcm
      have HIN := Lib.hid hin
      have hle : (l.getD k 0 = lettersL.getD k 0) ↔ ((l.getD k 0).toNat : Int) = ((lettersL.getD k 0).toNat : Int) := ⟨fun h => by rw [h], fun h => UInt8.toNat.inj (by omega)⟩
      have HLE := Lib.hid hle
      obtain ⟨x, hx⟩ : ∃ x : Int, x = ((l.getD k 0).toNat : Int) := ⟨_, rfl⟩
      obtain ⟨y, hy⟩ : ∃ y : Int, y = ((lettersL.getD k 0).toNat : Int) := ⟨_, rfl⟩
      rw [← hx] at hck HLE
      rw [← hy] at hcm HLE
      clear hcell hbl hin hle hx hy
      by_cases hxy : x = y
      · have hne : (x != y) = false := by simp [hxy]
        have HX := Lib.hid (HLE.out.2 hxy)
        clear hxy
        go_wp2_with fail
        go_region
        all_goals
          go_wp2
          go_roundw
          case rel => exact ⟨k + 1, by have := HIN.out.1; omega, by have := HIN.out.2; omega, by go_num, fun i hi => by
            by_cases hik : i = k
            · rw [hik]; exact HX.out
            · exact HALL.out i (by omega), HR3.out, HM3.out, HRD3.out, HB3.out.drew⟩
          case measure => simp [intOf]; omega
      · have hne : (x != y) = true := by rw [bne_iff_ne]; exact hxy
        have hres : r = ([0, 0, 0, 0], 0, 12) := by rw [HR0.out]; unfold getF; rw [if_pos (begB_no HIN.out.1 (by rw [HN.out]; exact HIN.out.2) (fun h => hxy (HLE.out.1 h)))]
        have HRS := Lib.hid hres
        clear hres hxy
        have q0 := HR3.out.cell 0
        have q1 := HR3.out.cell 1
        have q2 := HR3.out.cell 2
        have q3 := HR3.out.cell 3
        have f0 := HR3.out.frozen 0
        have f1 := HR3.out.frozen 1
        have f2 := HR3.out.frozen 2
        have f3 := HR3.out.frozen 3
        simp only [List.getElem?_cons_zero, List.getElem?_cons_succ] at q0 q1 q2 q3
        go_wp2_with fail
        go_region
        all_goals
          go_wp2
          exact bodyPost_ret (results_cell_tmp2 Try.results17 _ _ R 25 _ (0, 0) _ rfl (set4 (Blk.drew_ HR3.out) _ _ _ _) Try.underlying25 rfl size_opt) rfl ⟨get_ret HRS.out.symm, below4 HB3.out.drew (Nat.le_of_eq HRT.out.symm) _ _ _ _⟩
    · have hbg : begB l = true := begB_yes fun i h4 hl => HALL.out i (by have := HN.out; omega)
      have hcs : ((k : Int) < 4 ∧ ¬ (k : Int) < (n : Int)) ∨ ¬ (k : Int) < 4 := by omega
      have HBG := Lib.hid hbg
      clear hbg hin
      by_cases h7 : n < 7
      · have hres : r = ([0, 0, 0, 0], 0, 11) := by rw [HR0.out]; unfold getF; rw [if_neg (by rw [HBG.out]; decide), if_pos (by rw [HN.out]; exact h7)]
        have HRS := Lib.hid hres
        have h7i : (n : Int) < 7 := by omega
        clear hres
        have q0 := HR3.out.cell 0
        have q1 := HR3.out.cell 1
        have q2 := HR3.out.cell 2
        have q3 := HR3.out.cell 3
        have f0 := HR3.out.frozen 0
        have f1 := HR3.out.frozen 1
        have f2 := HR3.out.frozen 2
        have f3 := HR3.out.frozen 3
        simp only [List.getElem?_cons_zero, List.getElem?_cons_succ] at q0 q1 q2 q3
        rcases hcs with ⟨h4i, hni⟩ | h4i
        all_goals
          go_wp2
          exact bodyPost_ret (results_cell_tmp2 Try.results17 _ _ R 25 _ (0, 0) _ rfl (set4 HR3.out _ _ _ _) Try.underlying25 rfl size_opt) rfl ⟨get_ret HRS.out.symm, below4 HB3.out (Nat.le_of_eq HRT.out.symm) _ _ _ _⟩
      · have h4i : ¬ (k : Int) < 4 := by omega
        clear hcs
        have h7i : ¬ (n : Int) < 7 := by omega
        have h7n : 7 ≤ n := by omega
        have HG1 := Lib.hid (show r = if e = 21 then ([0, 0, 0, 0], 0, 13) else if e ≠ 0 ∨ n < 7 + j + 4 then ([0, 0, 0, 0], 0, 11) else if 16777216 < m then ([0, 0, 0, 0], 0, 13) else if mayO (m : Int) ((l.getD 4 0).toNat : Int) ((l.getD 5 0).toNat : Int) ((l.getD 6 0).toNat : Int) = false then ([0, 0, 0, 0], 0, 13) else if (l.take (7 + j + 4) == headS m (l.getD 4 0).toNat (l.getD 5 0).toNat (l.getD 6 0).toNat) = false then ([0, 0, 0, 0], 0, 13) else ([(m : Int), ((l.getD 4 0).toNat : Int), ((l.getD 5 0).toNat : Int), ((l.getD 6 0).toNat : Int)], 7 + j + 4, 0) by
          rw [HR0.out]; unfold getF; rw [HN.out, if_neg (by rw [HBG.out]; decide), if_neg h7])
        go_wp2_with ((with_reducible show wpList _ _ _ (({ dst := some 37, op := _, type := _, pos := _, after := _, guard := _ } : Oper) :: _) _ _); go_must (refine wpList_from rfl (.tmp 36) (.const (.int .i64 7)) rfl Try.underlying22 (by kernel_rfl) wr.heap.size A n c 7 (bvs l) rfl rfl HRD3.out (by rw [bvs_length]; exact HN.out) hnc h7n ?_; intro A2 c2 hc2 hrd2))
        rw [show (bvs l).drop 7 = bvs (l.drop 7) by unfold bvs; rw [List.map_drop]] at hrd2
        refine (CLG.out A2 c2 wr h7n hrd2).mono ?_
        rintro e' w2 ⟨rfl, hw⟩
        subst hw
        clear hrd2 hc2
        by_cases h21 : e = 21
        · have hres : r = ([0, 0, 0, 0], 0, 13) := by rw [HG1.out, if_pos h21]
          have HRS := Lib.hid hres
          subst h21
          clear hres
          have q0 := HR3.out.cell 0
          have q1 := HR3.out.cell 1
          have q2 := HR3.out.cell 2
          have q3 := HR3.out.cell 3
          have f0 := HR3.out.frozen 0
          have f1 := HR3.out.frozen 1
          have f2 := HR3.out.frozen 2
          have f3 := HR3.out.frozen 3
          simp only [List.getElem?_cons_zero, List.getElem?_cons_succ] at q0 q1 q2 q3
          go_wp2
          exact bodyPost_ret (results_cell_tmp2 Try.results17 _ _ R 25 _ (0, 0) _ rfl (set4 HR3.out _ _ _ _) Try.underlying25 rfl size_opt) rfl ⟨get_ret HRS.out.symm, below4 HB3.out (Nat.le_of_eq HRT.out.symm) _ _ _ _⟩
        · by_cases h0 : e = 0
          · subst h0
            by_cases hsz : n < 7 + j + 4
            · have hres : r = ([0, 0, 0, 0], 0, 11) := by rw [HG1.out, if_neg (by decide), if_pos (.inr hsz)]
              have HRS := Lib.hid hres
              have hszi : (n : Int) < 7 + (j : Int) + 4 := by omega
              clear hres h21
              have q0 := HR3.out.cell 0
              have q1 := HR3.out.cell 1
              have q2 := HR3.out.cell 2
              have q3 := HR3.out.cell 3
              have f0 := HR3.out.frozen 0
              have f1 := HR3.out.frozen 1
              have f2 := HR3.out.frozen 2
              have f3 := HR3.out.frozen 3
              simp only [List.getElem?_cons_zero, List.getElem?_cons_succ] at q0 q1 q2 q3
              go_wp2
              exact bodyPost_ret (results_cell_tmp2 Try.results17 _ _ R 25 _ (0, 0) _ rfl (set4 HR3.out _ _ _ _) Try.underlying25 rfl size_opt) rfl ⟨get_ret HRS.out.symm, below4 HB3.out (Nat.le_of_eq HRT.out.symm) _ _ _ _⟩
            · have hszi : ¬ (n : Int) < 7 + (j : Int) + 4 := by omega
              by_cases hbm : 16777216 < m
              · have hres : r = ([0, 0, 0, 0], 0, 13) := by rw [HG1.out, if_neg (by decide), if_neg (by omega), if_pos hbm]
                have HRS := Lib.hid hres
                have hmi : (16777216 : Int) < (m : Int) := by omega
                clear hres h21
                have q0 := HR3.out.cell 0
                have q1 := HR3.out.cell 1
                have q2 := HR3.out.cell 2
                have q3 := HR3.out.cell 3
                have f0 := HR3.out.frozen 0
                have f1 := HR3.out.frozen 1
                have f2 := HR3.out.frozen 2
                have f3 := HR3.out.frozen 3
                simp only [List.getElem?_cons_zero, List.getElem?_cons_succ] at q0 q1 q2 q3
                go_wp2
                exact bodyPost_ret (results_cell_tmp2 Try.results17 _ _ R 25 _ (0, 0) _ rfl (set4 HR3.out _ _ _ _) Try.underlying25 rfl size_opt) rfl ⟨get_ret HRS.out.symm, below4 HB3.out (Nat.le_of_eq HRT.out.symm) _ _ _ _⟩
              · have hmi : ¬ (16777216 : Int) < (m : Int) := by omega
                have HG2 := Lib.hid (show r = if mayO (m : Int) ((l.getD 4 0).toNat : Int) ((l.getD 5 0).toNat : Int) ((l.getD 6 0).toNat : Int) = false then ([0, 0, 0, 0], 0, 13) else if (l.take (7 + j + 4) == headS m (l.getD 4 0).toNat (l.getD 5 0).toNat (l.getD 6 0).toNat) = false then ([0, 0, 0, 0], 0, 13) else ([(m : Int), ((l.getD 4 0).toNat : Int), ((l.getD 5 0).toNat : Int), ((l.getD 6 0).toNat : Int)], 7 + j + 4, 0) by
                  rw [HG1.out, if_neg (by decide), if_neg (by omega), if_neg hbm])
                obtain ⟨ab, ao, rfl, hbl, hcell⟩ := HRD3.out.at_ (by rw [bvs_length]; have := HN.out; omega)
                have hg : ∀ k, k < 7 → (bvs l)[k]? = some (.int .u8 ((l.getD k 0).toNat : Int)) := fun k hk => by
                  unfold bvs
                  rw [List.getElem?_map, List.getD_eq_getElem?_getD, List.getElem?_eq_getElem (by have := HN.out; omega)]
                  rfl
                have c4 := hcell 4 _ (hg 4 (by decide))
                have c5 := hcell 5 _ (hg 5 (by decide))
                have c6 := hcell 6 _ (hg 6 (by decide))
                obtain ⟨y4, hy4⟩ : ∃ y, y = (l.getD 4 0).toNat := ⟨_, rfl⟩
                obtain ⟨y5, hy5⟩ : ∃ y, y = (l.getD 5 0).toNat := ⟨_, rfl⟩
                obtain ⟨y6, hy6⟩ : ∃ y, y = (l.getD 6 0).toNat := ⟨_, rfl⟩
                have b4 : (y4 : Int) ≤ 255 := by have := (l.getD 4 0).toNat_lt; omega
                have b5 : (y5 : Int) ≤ 255 := by have := (l.getD 5 0).toNat_lt; omega
                have b6 : (y6 : Int) ≤ 255 := by have := (l.getD 6 0).toNat_lt; omega
                rw [← hy4] at c4 HG2
                rw [← hy5] at c5 HG2
                rw [← hy6] at c6 HG2
                have hne : ab ≠ wr.heap.size := by omega
                clear hg hcell hy4 hy5 hy6 h21 HG1 CLG
                go_wp2_with fail
                go_region
                all_goals
                  obtain ⟨G, hG⟩ : ∃ G, G = wr.heap.size := ⟨_, rfl⟩
                  have hgb := heap_alloc_new wr (.cells #[.int .i64 (m : Int), .int .i64 (y4 : Int), .int .i64 (y5 : Int), .int .i64 (y6 : Int)] 25)
                  have HR5 := Lib.hid ((HR3.out.alloc_ (.cells #[.int .i64 (m : Int), .int .i64 (y4 : Int), .int .i64 (y5 : Int), .int .i64 (y6 : Int)] 25)).drew_)
                  have HB5 := Lib.hid ((HB3.out.alloc HB3.out.size (.cells #[.int .i64 (m : Int), .int .i64 (y4 : Int), .int .i64 (y5 : Int), .int .i64 (y6 : Int)] 25)).drew)
                  obtain ⟨w5, hw5⟩ : ∃ w5, w5 = (wr.alloc (.cells #[.int .i64 (m : Int), .int .i64 (y4 : Int), .int .i64 (y5 : Int), .int .i64 (y6 : Int)] 25)).drew := ⟨_, rfl⟩
                  have HG := Lib.hid (show Blk w5 G 25 [.int .i64 (m : Int), .int .i64 (y4 : Int), .int .i64 (y5 : Int), .int .i64 (y6 : Int)] by rw [hw5, hG]; exact hgb)
                  have HRD5 := Lib.hid (show Rd w5 w5.heap.size (some ⟨ab, ao, none⟩) (bvs l) by
                    rw [hw5]
                    exact Rd.drew ((HRD3.out.alloc (Nat.le_refl _) _).more (by simp)))
                  rw [← hw5] at HR5 HB5 ⊢
                  rw [← hG]
                  have CM := Lib.hid (refMay_any (m : Int) (y4 : Int) (y5 : Int) (y6 : Int))
                  unfold optV at CM
                  clear hw5 hgb hG hne hbl c4 c5 c6 HR3 HB3 HRD3 HM3
                  cases hmay : mayO (m : Int) (y4 : Int) (y5 : Int) (y6 : Int) with
                  | false =>
                    rw [hmay] at CM
                    have hres : r = ([0, 0, 0, 0], 0, 13) := by rw [HG2.out, if_pos hmay]
                    have HRS := Lib.hid hres
                    clear hres hmay
                    go_wp2_with fail
                    refine wp_region_grow [⟨74, [], .is (.agg #[.int .i64 (m : Int), .int .i64 (y4 : Int), .int .i64 (y5 : Int), .int .i64 (y6 : Int)])⟩, ⟨75, [0], .is (.bool false)⟩, ⟨76, [1], .is (.bool true)⟩, ⟨77, [2], .is (.bool true)⟩, ⟨78, [3], .nothing⟩, ⟨79, [3], .nothing⟩, ⟨80, [3], .nothing⟩, ⟨81, [3], .nothing⟩, ⟨82, [3], .nothing⟩, ⟨83, [3], .nothing⟩, ⟨84, [3], .nothing⟩, ⟨85, [3], .nothing⟩, ⟨86, [3], .nothing⟩, ⟨87, [3], .nothing⟩, ⟨88, [3], .is (.bool true)⟩]
                      [(0, .slice (some ⟨ab, ao, none⟩) n c), (8, .int .i64 (j : Int)), (10, .pointer (some ⟨G, 0, none⟩))] (by kernel_rfl) (by kernel_rfl) (by kernel_rfl) (by kernel_rfl) (by kernel_rfl) ⟨rfl, rfl, rfl, trivial⟩ ?_ ?_
                    · repeat' (first | exact OblGAll.nil | refine OblGAll.cons ?_ ?_)
                      all_goals (intro ev yi w' hB hc hf ho hn; simp only [OutsSay, NeedSay, rowAt, Fact.says, and_true] at ho hn)
                      all_goals (have q0 := (HG.out.grow hB).cell 0; have q1 := (HG.out.grow hB).cell 1; have q2 := (HG.out.grow hB).cell 2; have q3 := (HG.out.grow hB).cell 3; simp only [List.getElem?_cons_zero, List.getElem?_cons_succ] at q0 q1 q2 q3)
                      all_goals (try ((simp [OpSays, execOp, Region.wanted, Fact.says, boolOf, go_sem, ho, hn, hc, Below.refl, q0, q1, q2, q3]; done)))
                      · rw [if_pos (by simp [Region.wanted])]
                        exact says_call Try.call25 (vs := #[.agg #[.int .i64 (m : Int), .int .i64 (y4 : Int), .int .i64 (y5 : Int), .int .i64 (y6 : Int)]]) rfl hf (by simp [hn]) ((CM.out w').mono fun _ _ h => ⟨_, h.1, rfl, h.2⟩)
                    · intro X w6 hb6 hx
                      have hlast : X 14 = .bool true := hx 14 (by decide)
                      clear hx
                      have HL := Lib.hid hlast
                      have HR6 := Lib.hid (HR5.out.grow hb6)
                      have HB6 := Lib.hid (HB5.out.trans (hb6.mono HB5.out.size))
                      clear hlast hb6 HR5 HB5 HRD5 CM
                      simp only [layAll, List.setIfInBounds_toArray, List.set_cons_succ, List.set_cons_zero]
                      rw [HL.out]
                      clear HL
                      have q0 := HR6.out.cell 0
                      have q1 := HR6.out.cell 1
                      have q2 := HR6.out.cell 2
                      have q3 := HR6.out.cell 3
                      have f0 := HR6.out.frozen 0
                      have f1 := HR6.out.frozen 1
                      have f2 := HR6.out.frozen 2
                      have f3 := HR6.out.frozen 3
                      simp only [List.getElem?_cons_zero, List.getElem?_cons_succ] at q0 q1 q2 q3
                      go_wp2
                      exact bodyPost_ret (results_cell_tmp2 Try.results17 _ _ R 25 _ (0, 0) _ rfl (set4 HR6.out _ _ _ _) Try.underlying25 rfl size_opt) rfl ⟨get_ret HRS.out.symm, below4 HB6.out (Nat.le_of_eq HRT.out.symm) _ _ _ _⟩
                  | true =>
                    rw [hmay] at CM
                    have hres : r = if (l.take (7 + j + 4) == headS m y4 y5 y6) = false then ([0, 0, 0, 0], 0, 13) else ([(m : Int), (y4 : Int), (y5 : Int), (y6 : Int)], 7 + j + 4, 0) := by rw [HG2.out, if_neg (by rw [hmay]; decide)]
                    obtain ⟨b', u', r', m', e1, e2, e3, e4, hb1, hb2, hu, hr10, hm6⟩ := mayO_nat hmay
                    have CP := Lib.hid (fun w => refHPut_any (b := m) (u := y4) (r := y5) (m := y6) (by omega) (by rcases hu with h | h | h | h <;> omega) (by omega) (by omega) w)
                    unfold optV at CP
                    obtain ⟨HS, hHS⟩ : ∃ HS, HS = headS m y4 y5 y6 := ⟨_, rfl⟩
                    obtain ⟨E, hE7⟩ : ∃ E, E = 7 + j := ⟨_, rfl⟩
                    obtain ⟨E4, hE4⟩ : ∃ E4, E4 = 7 + j + 4 := ⟨_, rfl⟩
                    rw [← hHS] at CP hres
                    rw [← hE4] at hres
                    have HRS := Lib.hid hres
                    obtain ⟨q, hq⟩ : ∃ q, q = (l.take E4 == HS) := ⟨_, rfl⟩
                    rw [← hq] at HRS
                    obtain ⟨S1, hS1⟩ : ∃ S, S = strA (l.take E4) := ⟨_, rfl⟩
                    obtain ⟨S2, hS2⟩ : ∃ S, S = strA HS := ⟨_, rfl⟩
                    have HEQ := Lib.hid (show (S1.toList == S2.toList) = q by rw [hS1, hS2, strA_list, strA_list, hq])
                    have HS1 := Lib.hid hS1
                    have HS2 := Lib.hid hS2
                    obtain ⟨nq, hnq⟩ : ∃ nq, nq = !q := ⟨_, rfl⟩
                    have HNQ := Lib.hid hnq
                    have HW7 := Lib.hid (show IntKind.i64.wrap (7 + (j : Int)) = (E : Int) by rw [IntKind.wrap_i64]; omega)
                    have HW4 := Lib.hid (show IntKind.i64.wrap ((E : Int) + 4) = (E4 : Int) by rw [IntKind.wrap_i64]; omega)
                    have hE4n : E4 ≤ n := by omega
                    have hE4c : (E4 : Int) ≤ (c : Int) := by omega
                    have HE4N := Lib.hid hE4n
                    have HE4 := Lib.hid hE4
                    have HT := Lib.hid (show Rd w5 w5.heap.size (some ⟨ab, ao, none⟩) (bvs (l.take E4)) by
                      have h := HRD5.out.take E4
                      unfold bvs at h ⊢
                      rw [List.map_take]
                      exact h)
                    clear hres hmay e1 e2 e3 e4 hb1 hb2 hu hr10 hm6 hHS hE7 hE4 hq hS1 hS2 hnq hE4n
                    go_wp2_with fail
                    refine wp_region_grow [⟨74, [], .is (.agg #[.int .i64 (m : Int), .int .i64 (y4 : Int), .int .i64 (y5 : Int), .int .i64 (y6 : Int)])⟩, ⟨75, [0], .is (.bool true)⟩, ⟨76, [1], .is (.bool false)⟩, ⟨77, [2], .is (.bool false)⟩, ⟨78, [3], .is (.slice (some ⟨ab, ao, none⟩) n c)⟩, ⟨79, [3], .is (.int .i64 (j : Int))⟩, ⟨80, [5, 3], .is (.int .i64 (E : Int))⟩, ⟨81, [6, 3], .is (.int .i64 (E4 : Int))⟩, ⟨82, [4, 7, 3], .is (.slice (some ⟨ab, ao, none⟩) E4 c)⟩, ⟨83, [8, 3], .is (.string S1)⟩, ⟨84, [3], .is (.agg #[.int .i64 (m : Int), .int .i64 (y4 : Int), .int .i64 (y5 : Int), .int .i64 (y6 : Int)])⟩, ⟨85, [10, 3], .bytes HS⟩, ⟨86, [11, 3], .is (.string S2)⟩, ⟨87, [9, 12, 3], .is (.bool nq)⟩, ⟨88, [3, 13], .is (.bool nq)⟩]
                      [(0, .slice (some ⟨ab, ao, none⟩) n c), (8, .int .i64 (j : Int)), (10, .pointer (some ⟨G, 0, none⟩))] (by kernel_rfl) (by kernel_rfl) (by kernel_rfl) (by kernel_rfl) (by kernel_rfl) ⟨rfl, rfl, rfl, trivial⟩ ?_ ?_
                    · repeat' (first | exact OblGAll.nil | refine OblGAll.cons ?_ ?_)
                      all_goals (intro ev yi w' hB hc hf ho hn; simp only [OutsSay, NeedSay, rowAt, Fact.says, and_true] at ho hn)
                      all_goals (have q0 := (HG.out.grow hB).cell 0; have q1 := (HG.out.grow hB).cell 1; have q2 := (HG.out.grow hB).cell 2; have q3 := (HG.out.grow hB).cell 3; simp only [List.getElem?_cons_zero, List.getElem?_cons_succ] at q0 q1 q2 q3)
                      all_goals (try ((simp [OpSays, execOp, Region.wanted, Fact.says, boolOf, go_sem, ho, hn, hc, Below.refl, q0, q1, q2, q3]; done)))
                      · rw [if_pos (by simp [Region.wanted])]
                        exact says_call Try.call25 (vs := #[.agg #[.int .i64 (m : Int), .int .i64 (y4 : Int), .int .i64 (y5 : Int), .int .i64 (y6 : Int)]]) rfl hf (by simp [hn]) ((CM.out w').mono fun _ _ h => ⟨_, h.1, rfl, h.2⟩)
                      · rw [if_pos (by simp [Region.wanted, hn, boolOf])]
                        simp [OpSays, execOp, Fact.says, go_sem, hn, hc, Below.refl, HW7.out]
                      · rw [if_pos (by simp [Region.wanted, hn, boolOf])]
                        simp [OpSays, execOp, Fact.says, go_sem, hn, hc, Below.refl, HW4.out]
                      · rw [if_pos (by simp [Region.wanted, hn, boolOf])]
                        simp [OpSays, execOp, Fact.says, go_sem, hn, Below.refl, hE4c]
                      · rw [if_pos (by simp [Region.wanted, hn, boolOf])]
                        refine says_str (l := l.take E4) rfl Try.underlying22 Try.underlying5 Try.underlying9 ?_ ⟨congrArg Value.string HS1.out.symm, Below.refl _ _⟩
                        rw [hn.1]
                        exact ⟨some ⟨ab, ao, none⟩, c, by rw [List.length_take]; congr 1; have := HE4N.out; have := HN.out; omega, by rw [List.length_take]; have := HE4N.out; omega, (HT.out.below hB).more hB.size⟩
                      · rw [if_pos (by simp [Region.wanted, hn, boolOf])]
                        exact says_call Try.call26 (vs := #[.agg #[.int .i64 (m : Int), .int .i64 (y4 : Int), .int .i64 (y5 : Int), .int .i64 (y6 : Int)]]) rfl hf (by simp [hn]) ((CP.out w').mono fun _ _ ⟨v, h1, h2, h3⟩ => ⟨v, h1, IsBytes.of_own h2, h3⟩)
                      · rw [if_pos (by simp [Region.wanted, hn, boolOf])]
                        exact says_str (l := HS) rfl Try.underlying22 Try.underlying5 Try.underlying9 hn.1 ⟨congrArg Value.string HS2.out.symm, Below.refl _ _⟩
                      · rw [if_pos (by simp [Region.wanted, hn, boolOf])]
                        simp [OpSays, execOp, Fact.says, go_sem, hn, Below.refl, HEQ.out, HNQ.out]
                    · intro X w6 hb6 hx
                      have hlast : X 14 = .bool nq := hx 14 (by decide)
                      clear hx
                      have HL := Lib.hid hlast
                      have HR6 := Lib.hid (HR5.out.grow hb6)
                      have HG6 := Lib.hid (HG.out.grow hb6)
                      have HB6 := Lib.hid (HB5.out.trans (hb6.mono HB5.out.size))
                      clear hlast hb6 HR5 HB5 HRD5 CM CP HG HT
                      simp only [layAll, List.setIfInBounds_toArray, List.set_cons_succ, List.set_cons_zero]
                      rw [HL.out]
                      cases hqq : q with
                      | false =>
                        have hnt : nq = true := by rw [HNQ.out, hqq]; rfl
                        have hrs2 : r = ([0, 0, 0, 0], 0, 13) := by rw [HRS.out, if_pos hqq]
                        have HRS2 := Lib.hid hrs2
                        rw [hnt]
                        clear hrs2 hqq hnt HL
                        have q0 := HR6.out.cell 0
                        have q1 := HR6.out.cell 1
                        have q2 := HR6.out.cell 2
                        have q3 := HR6.out.cell 3
                        have f0 := HR6.out.frozen 0
                        have f1 := HR6.out.frozen 1
                        have f2 := HR6.out.frozen 2
                        have f3 := HR6.out.frozen 3
                        simp only [List.getElem?_cons_zero, List.getElem?_cons_succ] at q0 q1 q2 q3
                        go_wp2
                        exact bodyPost_ret (results_cell_tmp2 Try.results17 _ _ R 25 _ (0, 0) _ rfl (set4 HR6.out _ _ _ _) Try.underlying25 rfl size_opt) rfl ⟨get_ret HRS2.out.symm, below4 HB6.out (Nat.le_of_eq HRT.out.symm) _ _ _ _⟩
                      | true =>
                        have hnt : nq = false := by rw [HNQ.out, hqq]; rfl
                        have hrs2 : r = ([(m : Int), (y4 : Int), (y5 : Int), (y6 : Int)], E4, 0) := by rw [HRS.out, if_neg (by rw [hqq]; decide)]
                        have HRS2 := Lib.hid hrs2
                        have he4 : (7 : Int) + (j : Int) + 4 = (E4 : Int) := by have := HE4.out; omega
                        rw [hnt]
                        clear hrs2 hqq hnt HL
                        have q0 := HR6.out.cell 0
                        have q1 := HR6.out.cell 1
                        have q2 := HR6.out.cell 2
                        have q3 := HR6.out.cell 3
                        have f0 := HR6.out.frozen 0
                        have f1 := HR6.out.frozen 1
                        have f2 := HR6.out.frozen 2
                        have f3 := HR6.out.frozen 3
                        simp only [List.getElem?_cons_zero, List.getElem?_cons_succ] at q0 q1 q2 q3
                        have o0 := HG6.out.cell 0
                        have o1 := HG6.out.cell 1
                        have o2 := HG6.out.cell 2
                        have o3 := HG6.out.cell 3
                        simp only [List.getElem?_cons_zero, List.getElem?_cons_succ] at o0 o1 o2 o3
                        go_wp2
                        exact bodyPost_ret (results_cell_tmp2 Try.results17 _ _ R 25 _ (0, 0) _ rfl (set4 HR6.out _ _ _ _) Try.underlying25 rfl size_opt) rfl ⟨get_ret HRS2.out.symm, below4 HB6.out (Nat.le_of_eq HRT.out.symm) _ _ _ _⟩
          · have he11 : e = 11 := by have := HE3.out; omega
            have hres : r = ([0, 0, 0, 0], 0, 11) := by rw [HG1.out, if_neg h21, if_pos (.inl h0)]
            have HRS := Lib.hid hres
            subst he11
            clear hres h21 h0
            have q0 := HR3.out.cell 0
            have q1 := HR3.out.cell 1
            have q2 := HR3.out.cell 2
            have q3 := HR3.out.cell 3
            have f0 := HR3.out.frozen 0
            have f1 := HR3.out.frozen 1
            have f2 := HR3.out.frozen 2
            have f3 := HR3.out.frozen 3
            simp only [List.getElem?_cons_zero, List.getElem?_cons_succ] at q0 q1 q2 q3
            go_wp2
            exact bodyPost_ret (results_cell_tmp2 Try.results17 _ _ R 25 _ (0, 0) _ rfl (set4 HR3.out _ _ _ _) Try.underlying25 rfl size_opt) rfl ⟨get_ret HRS.out.symm, below4 HB3.out (Nat.le_of_eq HRT.out.symm) _ _ _ _⟩
end Go.Proofs.Ytlbpolkmhhmkgaa
namespace Go.Proofs.Ytlbpolkmhhmkgaa

theorem seven_of {l : List UInt8} (h : 7 ≤ l.length) : ∃ a b c d x y z t, l = a :: b :: c :: d :: x :: y :: z :: t := by
  match l, h with
  | a :: b :: c :: d :: x :: y :: z :: t, _ => exact ⟨a, b, c, d, x, y, z, t, rfl⟩
theorem ofNat_toNat8 (c : UInt8) : UInt8.ofNat c.toNat = c := UInt8.toNat.inj (by rw [UInt8.toNat_ofNat']; have := c.toNat_lt; omega)
/-- What stands ahead of the sum. -/
theorem head_take {l : List UInt8} {m j : Nat} (hb : begB l = true) (h7 : 7 ≤ l.length) (hj : (l.drop 7).take j = lput m) : l.take (7 + j) = headL m (l.getD 4 0).toNat (l.getD 5 0).toNat (l.getD 6 0).toNat := by
  obtain ⟨a, b, c, d, x, y, z, t, rfl⟩ := seven_of h7
  unfold begB at hb
  rw [Nat.min_eq_right (by simp)] at hb
  have hb' : [a, b, c, d] = [87, 80, 82, 49] := eq_of_beq hb
  injection hb' with e1 hb'
  injection hb' with e2 hb'
  injection hb' with e3 hb'
  injection hb' with e4 hb'
  have hj' : t.take j = lput m := hj
  rw [show 7 + j = j + 7 by omega]
  unfold headL
  rw [← hj', e1, e2, e3, e4]
  show 87 :: 80 :: 82 :: 49 :: x :: y :: z :: t.take j = [87, 80, 82, 49, UInt8.ofNat x.toNat, UInt8.ofNat y.toNat, UInt8.ofNat z.toNat] ++ t.take j
  rw [ofNat_toNat8, ofNat_toNat8, ofNat_toNat8]
  rfl
theorem beq_app {a x y : List UInt8} : (a ++ x == a ++ y) = (x == y) := by
  by_cases h : x = y
  · rw [h]; simp
  · have h2 : a ++ x ≠ a ++ y := fun e => h (List.append_cancel_left e)
    rw [beq_eq_false_iff_ne.2 h, beq_eq_false_iff_ne.2 h2]
/-- The program's Get and the reference's tell the same. -/
theorem get_same {l : List UInt8} {m j e : Nat} (hg : lget (l.drop 7) = (m, j, e)) : getP l m j e = getF l m j e := by
  unfold getP getF
  cases hb : begB l with
  | false => rfl
  | true =>
    rw [if_neg (show ¬ true = false by decide), if_neg (show ¬ true = false by decide)]
    by_cases h7 : l.length < 7
    · rw [List.drop_eq_nil_of_le (by omega)] at hg
      have : (0, 0, 11) = (m, j, e) := hg
      simp only [Prod.mk.injEq] at this
      obtain ⟨rfl, rfl, rfl⟩ := this
      rw [if_pos rfl, if_pos h7]
    · rw [if_neg h7]
      rcases lget_told (l.drop 7) with ⟨q, h1, h2, h3, h4⟩ | h1 | h1
      · rw [hg] at h1
        simp only [Prod.mk.injEq] at h1
        obtain ⟨rfl, rfl, rfl⟩ := h1
        rw [if_neg (show ¬ (0 : Nat) = 11 by decide), if_neg (show ¬ (0 : Nat) = 21 by decide)]
        by_cases hsz : l.length < 7 + (lput m).length + 4
        · rw [if_pos ⟨rfl, hsz⟩, if_pos (.inr hsz)]
        · rw [if_neg (fun h => hsz h.2), if_neg (show ¬ (0 : Nat) ≠ 0 by decide), if_neg (show ¬ ((0 : Nat) ≠ 0 ∨ l.length < 7 + (lput m).length + 4) from fun h => h.elim (fun h => h rfl) hsz)]
          have hH := head_take hb (by omega) h4
          by_cases hm : 16777216 < m
          · have hmay : mayO ((min m 16777217 : Nat) : Int) ((l.getD 4 0).toNat : Int) ((l.getD 5 0).toNat : Int) ((l.getD 6 0).toNat : Int) = false := by
              have : ((min m 16777217 : Nat) : Int) = 16777217 := by omega
              rw [this]
              unfold mayO
              simp
            rw [if_pos hm, if_pos hmay]
            split <;> rfl
          · rw [if_neg hm]
            have hmin : min m 16777217 = m := by omega
            rw [hmin]
            have heq : (l.take (7 + (lput m).length + 4) == headS m (l.getD 4 0).toNat (l.getD 5 0).toNat (l.getD 6 0).toNat) = (fourL (crcOf (l.take (7 + (lput m).length))).toNat == (l.drop (7 + (lput m).length)).take 4) := by
              rw [List.take_add, hH]
              unfold headS
              rw [beq_app]
              exact Bool.beq_comm ..
            rw [heq]
            cases hmay : mayO (m : Int) ((l.getD 4 0).toNat : Int) ((l.getD 5 0).toNat : Int) ((l.getD 6 0).toNat : Int) with
            | false =>
              rw [if_pos rfl, if_pos rfl]
              split <;> rfl
            | true =>
              rw [if_neg (show ¬ true = false by decide), if_neg (show ¬ true = false by decide)]
      · rw [hg] at h1
        simp only [Prod.mk.injEq] at h1
        obtain ⟨rfl, rfl, rfl⟩ := h1
        rw [if_pos rfl, if_neg (show ¬ (11 : Nat) = 21 by decide), if_pos (show (11 : Nat) ≠ 0 ∨ l.length < 7 + 0 + 4 from .inl (by decide))]
      · rw [hg] at h1
        simp only [Prod.mk.injEq] at h1
        obtain ⟨rfl, rfl, rfl⟩ := h1
        rw [if_neg (show ¬ (21 : Nat) = 11 by decide), if_neg (show ¬ ((21 : Nat) = 0 ∧ l.length < 7 + 0 + 4) by rintro ⟨h, -⟩; omega), if_pos (show (21 : Nat) ≠ 0 by decide), if_pos rfl]
theorem headL_len (b u r m : Nat) : (headL b u r m).length = 7 + (lput b).length := by unfold headL; rw [List.length_append]; rfl
theorem headS_len (b u r m : Nat) : (headS b u r m).length = 7 + (lput b).length + 4 := by unfold headS; rw [List.length_append, headL_len]; rfl
end Go.Proofs.Ytlbpolkmhhmkgaa
namespace Go.Proofs.Ytlbpolkmhhmkgaa
open Go.RowKit

section
variable {w : World} {B : Nat} {A : Option Addr} {n m : Nat} {l : List UInt8}
theorem rd_from {at_ : Nat} (hr : Rd w B A (bvs l)) (hn : l.length = n) (hnm : n ≤ m) (hat : at_ ≤ n) : Rd w B (if m = at_ then A else Option.map (fun x => x.add at_) A) (bvs (l.drop at_)) := by
  by_cases h : m = at_
  · rw [List.drop_of_length_le (by omega)]; exact Rd.nil_ _ _ _
  · rw [if_neg h, ← bvs_drop]; exact hr.drop at_
theorem lebGet_from {at_ : Nat} {k j e : Nat} (hr : Rd w w.heap.size A (bvs l)) (hn : l.length = n) (hnm : n ≤ m) (hn1 : n ≤ 1000000) (hat : at_ ≤ n) (hg : lget (l.drop at_) = (k, j, e)) (W : World) (hW : W.heap = w.heap) :
    Calls Try.prog 30 #[.slice (if m = at_ then A else Option.map (fun x => x.add at_) A) (n - at_) (m - at_)] W fun e' w' => e' = .returned (.tuple #[.int .u64 k, .int .i64 j, .int .i64 e]) ∧ w' = W :=
  (lebGet_any _ _ _ (l.drop at_) W (rd_from (rd_same (by rw [hW]; exact hr) hW) hn hnm hat) (by rw [List.length_drop, hn]) (by omega) k j e hg).mono fun _ _ h => ⟨h.1, h.2.symm⟩
end
end Go.Proofs.Ytlbpolkmhhmkgaa
