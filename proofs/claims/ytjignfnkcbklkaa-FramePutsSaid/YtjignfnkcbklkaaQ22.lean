/-
  Layer 32: the law FramePuts.
-/
import Derived.Test.YtjignfnkcbklkaaQ18
import Derived.Test.YtjignfnkcbklkaaQ19
import Derived.Test.YtjignfnkcbklkaaQ20
import Derived.Test.YtjignfnkcbklkaaQ21
import Derived.Lib.QuietBelow
import Derived.BigQuiet
namespace Go.Proofs.Ytjignfnkcbklkaa
open Go.RowKit Go.Sort

theorem sumF_mem : ∀ (rs : List BRow) (x : BRow), x ∈ rs → min x.n 1000 ≤ sumF rs
  | y :: r, x, h => by
    rcases List.mem_cons.1 h with e | e
    · subst e
      simp only [sumF]
      omega
    · have := sumF_mem r x e
      simp only [sumF]
      omega
theorem few_small {rs : List BRow} (hl : rs.length ≤ 50) (h : sumF (rs.take 60) ≤ 900) : ∀ x ∈ rs, x.n ≤ 900 := fun x hx => by
  rw [List.take_of_length_le (by omega)] at h
  have := sumF_mem rs x hx
  omega
theorem payR_not {l : List UInt8} {bs : List B7} {j : Nat} {x : B7} (h : bs[j]? = some x) (hl : ¬ payOk l.length x) : payR l bs (j : Int) = [] := by
  unfold payR
  rw [if_pos (by omega), Int.toNat_natCast, h]
  simp only
  rw [if_neg hl]
theorem payR_yes {l : List UInt8} {bs : List B7} {j fr co : Nat} {x : B7} (h : bs[j]? = some x) (hf : x.fr = fr) (hc : x.co = co) (hl : fr + co ≤ l.length) : payR l bs (j : Int) = (l.drop fr).take co := by
  unfold payR
  rw [if_pos (by omega), Int.toNat_natCast, h]
  simp only
  rw [if_pos (show payOk l.length x from ⟨by omega, by omega, by omega⟩), hf, hc, Int.toNat_natCast, Int.toNat_natCast]
set_option maxRecDepth 100000 in
set_option maxHeartbeats 4000000 in
theorem framePuts_law (b u r m : Int) (A2 : Option Addr) (nb c2 : Nat) (bs : List B7) (tt su : Int) (A1 : Option Addr) (n1 c1 : Nat) (rs : List BRow) (A : Option Addr) (n c : Nat) (l : List UInt8) (k : Int) (W : World)
    (hbl : bs.length = nb) (_ : nb ≤ 9223372036854775807) (hin : ∀ x ∈ bs, x.inI) (hbd : Rd W W.heap.size A2 (blksI bs)) (hsu : 0 ≤ su ∧ su ≤ 4294967295)
    (hrl : rs.length = n1) (hrd : RdRows W W.heap.size A1 rs) (hrn : n1 ≤ 9223372036854775807)
    (hr : Rd W W.heap.size A (bvs l)) (hn : l.length = n) (hnc : n ≤ c) (_ : -9223372036854775808 ≤ k ∧ k ≤ 9223372036854775807) :
    Calls Try.prog 3 #[.agg #[.int .i64 b, .int .i64 u, .int .i64 r, .int .i64 m, .slice A2 nb c2, .int .i64 tt, .int .u32 su], .slice A1 n1 c1, .slice A n c, .int .i64 k] W fun e w' => e = .returned (.bool true) ∧ Below W.heap.size W w' := by
  have CK := Lib.hid known32_any
  have CF := Lib.hid (fun w (h : RdRows w w.heap.size A1 rs) => refFew_any (b := b) (u := u) (r := r) (m := m) (tt := tt) (su := su) (A2 := A2) (nb := nb) (c2 := c2) (c1 := c1) w h (by omega))
  rw [hrl] at CF
  obtain ⟨w0, hw0⟩ : ∃ w0, w0 = W.alloc (.cells #[.int .i64 b, .int .i64 u, .int .i64 r, .int .i64 m, .slice A2 nb c2, .int .i64 tt, .int .u32 su] 27) := ⟨_, rfl⟩
  have hb0 : Below W.heap.size W w0 := by rw [hw0]; exact (Below.refl _ _).alloc (Nat.le_refl _) _
  have hs0 : StrI w0 W.heap.size b u r m (.slice A2 nb c2) tt su := by rw [hw0]; exact blk_new W _ _ rfl
  have HW0 := Lib.hid hw0
  have HB0 := Lib.hid hb0
  have HS0 := Lib.hid hs0
  have HBD := Lib.hid ((hbd.below hb0).more hb0.size)
  have HRD := Lib.hid ((hrd.below hb0).more hb0.size)
  have HR := Lib.hid ((hr.below hb0).more hb0.size)
  have HN := Lib.hid (And.intro hn hnc)
  have HI := Lib.hid (And.intro hbl (And.intro hrl (And.intro hin hsu)))
  clear hw0 hb0 hs0 hbd hrd hr hn hnc hbl hrl hin hsu
  obtain ⟨Fw, hF⟩ : ∃ Fw, Fw = (decide (nb ≤ 50) && decide (n1 ≤ 50) && decide (sumF (rs.take 60) ≤ 900)) := ⟨_, rfl⟩
  rw [← hF] at CF
  have HF := Lib.hid hF
  clear hF
  obtain ⟨q0, q1, q2, q3, q4, q5, q6⟩ := HS0.out.cells
  cases Fw with
  | false =>
    go_enter Try.func3, Try.ntmps3
    go_wp2_with fail
    rw [← HW0.out]
    refine (CF.out w0 HRD.out).mono ?_
    rintro _ w1 ⟨rfl, hb1⟩
    have HB1 := Lib.hid (HB0.out.trans (hb1.mono HB0.out.size))
    clear q0 q1 q2 q3 q4 q5 q6 hb1
    go_wp2_with fail
    refine (CK.out _).mono ?_
    rintro _ wz ⟨rfl, hbz⟩
    have HBZ := Lib.hid (HB1.out.trans (hbz.mono HB1.out.size))
    clear hbz CK
    go_wp2
    go_ret
    exact ⟨rfl, HBZ.out⟩
  | true =>
    have hF := HF.out
    rw [eq_comm, Bool.and_eq_true, Bool.and_eq_true, decide_eq_true_eq, decide_eq_true_eq, decide_eq_true_eq] at hF
    obtain ⟨⟨hnb, hn1⟩, hsum⟩ := hF
    have hfew := few_small (by rw [HI.out.2.1]; omega) hsum
    obtain ⟨⟨P, E⟩, hq⟩ : ∃ q, putR b u r m nb n1 (bs.zip (rs.map BRow.l)) su = q := ⟨_, rfl⟩
    have C1 := Lib.hid (fun w (h1 : Rd w w.heap.size A2 (blksI bs)) (h2 : RdRows w w.heap.size A1 rs) => frmPut_any (b := b) (u := u) (r := r) (m := m) (tt := tt) (su := su) (c2 := c2) (c1 := c1) w h1 h2 (by rw [HI.out.1]; omega) (fun x hx => by have := hfew x hx; omega) HI.out.2.2.1 HI.out.2.2.2)
    have C2 := Lib.hid (fun w (h1 : Rd w w.heap.size A2 (blksI bs)) (h2 : RdRows w w.heap.size A1 rs) => refFPut_any (b := b) (u := u) (r := r) (m := m) (tt := tt) (su := su) (c2 := c2) (c1 := c1) w h1 h2 (by rw [HI.out.1]; omega) (fun x hx => by have := hfew x hx; omega) HI.out.2.2.1 HI.out.2.2.2)
    rw [HI.out.1, HI.out.2.1, hq] at C1 C2
    clear hfew hq hsum
    by_cases hl : 300 < n
    · have hli : (300 : Int) < (n : Int) := by omega
      go_enter Try.func3, Try.ntmps3
      go_wp2_with fail
      rw [← HW0.out]
      refine (CF.out w0 HRD.out).mono ?_
      rintro _ w1 ⟨rfl, hb1⟩
      have HB1 := Lib.hid (HB0.out.trans (hb1.mono HB0.out.size))
      clear q0 q1 q2 q3 q4 q5 q6 hb1
      go_wp2_with fail
      refine (CK.out _).mono ?_
      rintro _ wz ⟨rfl, hbz⟩
      have HBZ := Lib.hid (HB1.out.trans (hbz.mono HB1.out.size))
      clear hbz CK
      go_wp2
      go_ret
      exact ⟨rfl, HBZ.out⟩
    · have hli : ¬ (300 : Int) < (n : Int) := by omega
      go_enter Try.func3, Try.ntmps3
      go_wp2_with fail
      rw [← HW0.out]
      refine (CF.out w0 HRD.out).mono ?_
      rintro _ w1 ⟨rfl, hb1⟩
      have HB1 := Lib.hid (HB0.out.trans (hb1.mono HB0.out.size))
      have HS1 := Lib.hid (HS0.out.grow hb1)
      have HBD1 := Lib.hid ((HBD.out.below hb1).more hb1.size)
      have HRD1 := Lib.hid ((HRD.out.below hb1).more hb1.size)
      have HR1 := Lib.hid ((HR.out.below hb1).more hb1.size)
      clear q0 q1 q2 q3 q4 q5 q6 hb1 HS0 HBD HRD HR HB0 HW0 CF HF
      obtain ⟨q0, q1, q2, q3, q4, q5, q6⟩ := HS1.out.cells
      go_wp2_with fail
      refine (C1.out w1 HBD1.out HRD1.out).mono ?_
      rintro _ w2 ⟨v2, rfl, hv2, hb2⟩
      have HB2 := Lib.hid (HB1.out.trans (hb2.mono HB1.out.size))
      have HS2 := Lib.hid (HS1.out.grow hb2)
      have HBD2 := Lib.hid ((HBD1.out.below hb2).more hb2.size)
      have HRD2 := Lib.hid ((HRD1.out.below hb2).more hb2.size)
      have HR2 := Lib.hid ((HR1.out.below hb2).more hb2.size)
      have HV2 := Lib.hid hv2
      clear q0 q1 q2 q3 q4 q5 q6 hb2 HS1 HBD1 HRD1 HR1 HB1 hv2 C1
      obtain ⟨q0, q1, q2, q3, q4, q5, q6⟩ := HS2.out.cells
      simp only at HV2 ⊢
      go_wp2_with fail
      refine (C2.out w2 HBD2.out HRD2.out).mono ?_
      rintro _ w3 ⟨v3, rfl, hv3, hb3⟩
      have HB3 := Lib.hid (HB2.out.trans (hb3.mono HB2.out.size))
      have HS3 := Lib.hid (HS2.out.grow hb3)
      have HBD3 := Lib.hid ((HBD2.out.below hb3).more hb3.size)
      have HR3 := Lib.hid ((HR2.out.below hb3).more hb3.size)
      have HV := Lib.hid (And.intro (HV2.out.grow hb3) hv3)
      clear q0 q1 q2 q3 q4 q5 q6 hb3 HS2 HBD2 HRD2 HR2 HB2 hv3 HV2 C2
      obtain ⟨q0, q1, q2, q3, q4, q5, q6⟩ := HS3.out.cells
      have CP := Lib.hid (frmPay_any (o0 := b) (o1 := u) (o2 := r) (o3 := m) (tt := tt) (su := su) (c2 := c2) k w3 HR3.out HN.out.1 HN.out.2 (by omega) HBD3.out (fun x hx => ⟨(HI.out.2.2.1 x hx).2.2.2.1, (HI.out.2.2.1 x hx).2.2.1⟩))
      rw [HI.out.1] at CP
      simp only at HV ⊢
      go_wp2_with fail
      refine CP.out.mono ?_
      rintro _ w4 ⟨v4, rfl, hv4, hb4⟩
      have HB4 := Lib.hid (HB3.out.trans (hb4.mono HB3.out.size))
      have HS4 := Lib.hid (HS3.out.grow hb4)
      have HBD4 := Lib.hid ((HBD3.out.below hb4).more hb4.size)
      have HR4 := Lib.hid ((HR3.out.below hb4).more hb4.size)
      have HX2 := Lib.hid (HV.out.1.grow hb4)
      have HX3 := Lib.hid (HV.out.2.grow hb4)
      have HX4 := Lib.hid hv4
      clear q0 q1 q2 q3 q4 q5 q6 hb4 HS3 HBD3 HR3 HB3 hv4 HV CP
      obtain ⟨-, -, -, -, q4, -, -⟩ := HS4.out.cells
      by_cases hk0 : k < 0
      · have HP0 := Lib.hid (payR_none (l := l) (bs := bs) (k := k) (.inl hk0))
        have h0 := HX4.out
        rw [HP0.out] at h0
        obtain ⟨A4, c4, rfl, -, -⟩ := h0
        go_wp2_with (first
          | ((with_reducible show wpList _ _ _ (({ dst := some 109, op := _, type := _, pos := _, after := _, guard := _ } : Oper) :: _) _ _); go_must (refine wpList_strW rfl 29 9 5 (.tmp 108) rfl Try.underlying29 Try.underlying5 Try.underlying9 _ HX2.out ?_))
          | ((with_reducible show wpList _ _ _ (({ dst := some 111, op := _, type := _, pos := _, after := _, guard := _ } : Oper) :: _) _ _); go_must (refine wpList_strW rfl 29 9 5 (.tmp 110) rfl Try.underlying29 Try.underlying5 Try.underlying9 _ HX3.out ?_)))
        refine (CK.out _).mono ?_
        rintro _ wz ⟨rfl, hbz⟩
        have HBZ := Lib.hid (HB4.out.trans (hbz.mono HB4.out.size))
        clear hbz CK
        go_wp2
        go_ret
        exact ⟨rfl, HBZ.out⟩
      · by_cases hkn : (nb : Int) ≤ k
        · have HP0 := Lib.hid (payR_none (l := l) (bs := bs) (k := k) (.inr (by rw [HI.out.1]; exact hkn)))
          have h0 := HX4.out
          rw [HP0.out] at h0
          obtain ⟨A4, c4, rfl, -, -⟩ := h0
          go_wp2_with (first
            | ((with_reducible show wpList _ _ _ (({ dst := some 109, op := _, type := _, pos := _, after := _, guard := _ } : Oper) :: _) _ _); go_must (refine wpList_strW rfl 29 9 5 (.tmp 108) rfl Try.underlying29 Try.underlying5 Try.underlying9 _ HX2.out ?_))
            | ((with_reducible show wpList _ _ _ (({ dst := some 111, op := _, type := _, pos := _, after := _, guard := _ } : Oper) :: _) _ _); go_must (refine wpList_strW rfl 29 9 5 (.tmp 110) rfl Try.underlying29 Try.underlying5 Try.underlying9 _ HX3.out ?_)))
          refine (CK.out _).mono ?_
          rintro _ wz ⟨rfl, hbz⟩
          have HBZ := Lib.hid (HB4.out.trans (hbz.mono HB4.out.size))
          clear hbz CK
          go_wp2
          go_ret
          exact ⟨rfl, HBZ.out⟩
        · obtain ⟨j, rfl⟩ : ∃ j : Nat, k = (j : Int) := ⟨k.toNat, by omega⟩
          obtain ⟨x, hx⟩ : ∃ x, bs[j]? = some x := ⟨_, List.getElem?_eq_getElem (by rw [HI.out.1]; omega)⟩
          have hxi := HI.out.2.2.1 x (List.mem_of_getElem? hx)
          have HPN := Lib.hid (fun hl => payR_not (l := l) hx hl)
          have HPY := Lib.hid (fun fr co hf hc hl => payR_yes (l := l) (fr := fr) (co := co) hx hf hc hl)
          rw [HN.out.1] at HPN HPY
          obtain ⟨bb, off, rfl, -, p0, p1, p2, p3, p4, p5, p6⟩ := rd_blk HBD4.out hx
          obtain ⟨mo, ra, mi, co, s7, fr, pl⟩ := x
          simp only at p0 p1 p2 p3 p4 p5 p6
          have hfi : -9223372036854775808 ≤ fr ∧ fr ≤ 9223372036854775807 := hxi.2.2.2.1
          have hci : -9223372036854775808 ≤ co ∧ co ≤ 9223372036854775807 := hxi.2.2.1
          obtain ⟨w7, hw7⟩ : ∃ w7, w7 = w4.alloc (.cells #[.int .i64 mo, .int .i64 ra, .int .i64 mi, .int .i64 co, .int .u32 s7, .int .i64 fr, .int .i64 pl] 37) := ⟨_, rfl⟩
          obtain ⟨G3, hG3⟩ : ∃ G3, G3 = w4.heap.size := ⟨_, rfl⟩
          have b7 : Below w4.heap.size w4 w7 := by rw [hw7]; exact (Below.refl _ _).alloc (Nat.le_refl _) _
          have hs7 : Blk w7 G3 37 [.int .i64 mo, .int .i64 ra, .int .i64 mi, .int .i64 co, .int .u32 s7, .int .i64 fr, .int .i64 pl] := by rw [hw7]; exact blk_new _ _ _ hG3
          have y3 := hs7.cell 3
          have y5 := hs7.cell 5
          simp only [List.getElem?_cons_zero, List.getElem?_cons_succ] at y3 y5
          have hjN : (j : Int) < (nb : Int) := by omega
          have HW7 := Lib.hid hw7
          have HG3 := Lib.hid hG3
          have HB7 := Lib.hid (HB4.out.trans (b7.mono HB4.out.size))
          have HY2 := Lib.hid (HX2.out.grow b7)
          have HY3 := Lib.hid (HX3.out.grow b7)
          have HR7 := Lib.hid ((HR4.out.below b7).more b7.size)
          have HY4 := Lib.hid (HX4.out.grow b7)
          clear hw7 hG3 b7 hs7 hx hxi
          by_cases g1 : 0 ≤ fr
          · by_cases g2 : 0 ≤ co
            · by_cases g3 : fr ≤ (n : Int)
              · by_cases g4 : co ≤ (n : Int) - fr
                · obtain ⟨fr, rfl⟩ := Int.eq_ofNat_of_zero_le g1
                  obtain ⟨co, rfl⟩ := Int.eq_ofNat_of_zero_le g2
                  have hfr : fr + co ≤ n := by omega
                  have hpay := HPY.out fr co rfl rfl hfr
                  have t3 := cell_regrown y3
                  have t5 := cell_regrown y5
                  have CK7 := Lib.hid (fun d os => Calls.regrown_of (known32_any (grow (redrawn w7 d) os)))
                  obtain ⟨Lq, hLq⟩ : ∃ Lq, Lq = (l.drop fr).take co := ⟨_, rfl⟩
                  have hlq : Lq.length = co := by rw [hLq, List.length_take, List.length_drop, HN.out.1]; omega
                  have hv4 := HY4.out
                  rw [hpay, ← hLq] at hv4
                  obtain ⟨A4, c4, he4, -, hr4⟩ := hv4
                  have hv2 := HY2.out
                  have hv3 := HY3.out
                  obtain ⟨A5, c5, he5, -, hr5⟩ := hv2
                  obtain ⟨A6, c6, he6, -, hr6⟩ := hv3
                  have E1 : ∀ d os, Sem.run Try.prog (convert 29 9 v2) (grow (redrawn w7 d) os) = Result.ok (.string ⟨P.toArray⟩) (grow (redrawn w7 d) os) := fun d os => by
                    rw [he5]
                    exact run_str _ _ _ 5 Try.underlying29 Try.underlying5 Try.underlying9 _ A5 P c5 (hr5.below (below_regrown w7 d os)) _ rfl
                  have E2 : ∀ d os, Sem.run Try.prog (convert 29 9 v3) (grow (redrawn w7 d) os) = Result.ok (.string ⟨P.toArray⟩) (grow (redrawn w7 d) os) := fun d os => by
                    rw [he6]
                    exact run_str _ _ _ 5 Try.underlying29 Try.underlying5 Try.underlying9 _ A6 P c6 (hr6.below (below_regrown w7 d os)) _ rfl
                  have E3 : ∀ d os, Sem.run Try.prog (convert 29 9 v4) (grow (redrawn w7 d) os) = Result.ok (.string ⟨Lq.toArray⟩) (grow (redrawn w7 d) os) := fun d os => by
                    rw [he4]
                    exact run_str _ _ _ 5 Try.underlying29 Try.underlying5 Try.underlying9 _ A4 Lq c4 (hr4.below (below_regrown w7 d os)) _ rfl
                  have hrs := rd_take32 (m := co) (rd_from HR7.out HN.out.1 HN.out.2 (show fr ≤ n by omega))
                  rw [← hLq] at hrs
                  have E4 : ∀ d os, Sem.run Try.prog (convert 29 9 (.slice (if c = fr then A else Option.map (fun x => x.add fr) A) co (c - fr))) (grow (redrawn w7 d) os) = Result.ok (.string ⟨Lq.toArray⟩) (grow (redrawn w7 d) os) := fun d os =>
                    run_str _ _ _ 5 Try.underlying29 Try.underlying5 Try.underlying9 _ _ Lq _ (hrs.below (below_regrown w7 d os)) _ hlq
                  have hnc := HN.out.2
                  clear hLq hpay hrs he4 he5 he6 hr4 hr5 hr6 hlq HPN HPY HX2 HX3 HX4 HY2 HY3 HY4 HR7 HR4 HBD4 HS4
                  go_wp2_with (first | ((with_reducible show wpList _ _ _ (({ dst := some 55, op := _, type := _, pos := _, after := _, guard := _ } : Oper) :: _) _ _); rw [← HW7.out, ← HG3.out]))
                  refine wp_region_quiet_below (by kernel_rfl) (by kernel_rfl) ?_
                  repeat (go_big_quiet_step ((go_at_call 6; exact CK7.out _ _)))
                  refine wpQuiet_nil ?_
                  intro _ hw'
                  obtain ⟨⟨dq, osq⟩, hw''⟩ := hw'
                  subst hw''
                  have HB8 := Lib.hid (HB7.out.trans ((below_regrown w7 dq osq).mono HB7.out.size))
                  clear t3 t5 CK7 E1 E2 E3 E4 CK y3 y5 p0 p1 p2 p3 p4 p5 p6 q4
                  simp only at HB8 ⊢
                  obtain ⟨w8, hw8⟩ : ∃ w8, w8 = grow (redrawn w7 dq) osq := ⟨_, rfl⟩
                  rw [← hw8] at HB8 ⊢
                  clear hw8
                  go_wp2
                  all_goals
                    go_ret
                    exact ⟨rfl, HB8.out⟩
                · skip
                  have HP0 := Lib.hid (HPN.out (by unfold payOk; simp only; omega))
                  have h0 := HX4.out
                  rw [HP0.out] at h0
                  obtain ⟨A4, c4, rfl, -, -⟩ := h0
                  go_wp2_with (first
                    | ((with_reducible show wpList _ _ _ (({ dst := some 55, op := _, type := _, pos := _, after := _, guard := _ } : Oper) :: _) _ _); rw [← HW7.out, ← HG3.out])
                    | ((with_reducible show wpList _ _ _ (({ dst := some 109, op := _, type := _, pos := _, after := _, guard := _ } : Oper) :: _) _ _); go_must (refine wpList_strW rfl 29 9 5 (.tmp 108) rfl Try.underlying29 Try.underlying5 Try.underlying9 _ HY2.out ?_))
                    | ((with_reducible show wpList _ _ _ (({ dst := some 111, op := _, type := _, pos := _, after := _, guard := _ } : Oper) :: _) _ _); go_must (refine wpList_strW rfl 29 9 5 (.tmp 110) rfl Try.underlying29 Try.underlying5 Try.underlying9 _ HY3.out ?_)))
                  refine (CK.out _).mono ?_
                  rintro _ wz ⟨rfl, hbz⟩
                  have HBZ := Lib.hid (HB7.out.trans (hbz.mono HB7.out.size))
                  clear hbz CK
                  go_wp2
                  go_ret
                  exact ⟨rfl, HBZ.out⟩
              · skip
                have HP0 := Lib.hid (HPN.out (by unfold payOk; simp only; omega))
                have h0 := HX4.out
                rw [HP0.out] at h0
                obtain ⟨A4, c4, rfl, -, -⟩ := h0
                go_wp2_with (first
                  | ((with_reducible show wpList _ _ _ (({ dst := some 55, op := _, type := _, pos := _, after := _, guard := _ } : Oper) :: _) _ _); rw [← HW7.out, ← HG3.out])
                  | ((with_reducible show wpList _ _ _ (({ dst := some 109, op := _, type := _, pos := _, after := _, guard := _ } : Oper) :: _) _ _); go_must (refine wpList_strW rfl 29 9 5 (.tmp 108) rfl Try.underlying29 Try.underlying5 Try.underlying9 _ HY2.out ?_))
                  | ((with_reducible show wpList _ _ _ (({ dst := some 111, op := _, type := _, pos := _, after := _, guard := _ } : Oper) :: _) _ _); go_must (refine wpList_strW rfl 29 9 5 (.tmp 110) rfl Try.underlying29 Try.underlying5 Try.underlying9 _ HY3.out ?_)))
                refine (CK.out _).mono ?_
                rintro _ wz ⟨rfl, hbz⟩
                have HBZ := Lib.hid (HB7.out.trans (hbz.mono HB7.out.size))
                clear hbz CK
                go_wp2
                go_ret
                exact ⟨rfl, HBZ.out⟩
            · skip
              have HP0 := Lib.hid (HPN.out (by unfold payOk; simp only; omega))
              have h0 := HX4.out
              rw [HP0.out] at h0
              obtain ⟨A4, c4, rfl, -, -⟩ := h0
              go_wp2_with (first
                | ((with_reducible show wpList _ _ _ (({ dst := some 55, op := _, type := _, pos := _, after := _, guard := _ } : Oper) :: _) _ _); rw [← HW7.out, ← HG3.out])
                | ((with_reducible show wpList _ _ _ (({ dst := some 109, op := _, type := _, pos := _, after := _, guard := _ } : Oper) :: _) _ _); go_must (refine wpList_strW rfl 29 9 5 (.tmp 108) rfl Try.underlying29 Try.underlying5 Try.underlying9 _ HY2.out ?_))
                | ((with_reducible show wpList _ _ _ (({ dst := some 111, op := _, type := _, pos := _, after := _, guard := _ } : Oper) :: _) _ _); go_must (refine wpList_strW rfl 29 9 5 (.tmp 110) rfl Try.underlying29 Try.underlying5 Try.underlying9 _ HY3.out ?_)))
              refine (CK.out _).mono ?_
              rintro _ wz ⟨rfl, hbz⟩
              have HBZ := Lib.hid (HB7.out.trans (hbz.mono HB7.out.size))
              clear hbz CK
              go_wp2
              go_ret
              exact ⟨rfl, HBZ.out⟩
          · skip
            have HP0 := Lib.hid (HPN.out (by unfold payOk; simp only; omega))
            have h0 := HX4.out
            rw [HP0.out] at h0
            obtain ⟨A4, c4, rfl, -, -⟩ := h0
            go_wp2_with (first
              | ((with_reducible show wpList _ _ _ (({ dst := some 55, op := _, type := _, pos := _, after := _, guard := _ } : Oper) :: _) _ _); rw [← HW7.out, ← HG3.out])
              | ((with_reducible show wpList _ _ _ (({ dst := some 109, op := _, type := _, pos := _, after := _, guard := _ } : Oper) :: _) _ _); go_must (refine wpList_strW rfl 29 9 5 (.tmp 108) rfl Try.underlying29 Try.underlying5 Try.underlying9 _ HY2.out ?_))
              | ((with_reducible show wpList _ _ _ (({ dst := some 111, op := _, type := _, pos := _, after := _, guard := _ } : Oper) :: _) _ _); go_must (refine wpList_strW rfl 29 9 5 (.tmp 110) rfl Try.underlying29 Try.underlying5 Try.underlying9 _ HY3.out ?_)))
            refine (CK.out _).mono ?_
            rintro _ wz ⟨rfl, hbz⟩
            have HBZ := Lib.hid (HB7.out.trans (hbz.mono HB7.out.size))
            clear hbz CK
            go_wp2
            go_ret
            exact ⟨rfl, HBZ.out⟩
end Go.Proofs.Ytjignfnkcbklkaa
