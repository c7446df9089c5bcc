/- Layer 16: the law HistBack. -/
import Derived.Test.YtcaefobaochokaaHistLaws
import Derived.Test.YtcaefobaochokaaNormCount
namespace Go.Proofs.Ytcaefobaochokaa
open Go.RowKit Go.Sort Go.Shelf

/-- The counts of a text that is not empty may become shares. -/
theorem cnt_may {l : List UInt8} (h0 : 0 < l.length) (h1 : l.length ≤ 600) {b : Nat} (h8 : 8 ≤ b) : (cntL l).any nBad = false ∧ many (cntL l) ≠ 0 ∧ many (cntL l) ≤ ((2 ^ b : Nat) : Int) := by
  have hle := cntL_le l
  refine ⟨?_, fun h => ?_, ?_⟩
  · rw [List.any_eq_false]
    intro x hx
    have := hle x hx
    simp [nBad]
    omega
  · obtain ⟨a, t, rfl⟩ := List.exists_cons_of_length_pos h0
    have h2 := cntL_mem (l := a :: t) (b := a) List.mem_cons_self
    have h3 := many_zero (fun x hx => (hle x hx).1) h
    have hlt : a.toNat < (cntL (a :: t)).length := by rw [cntL_len]; exact a.toNat_lt
    have h4 := le_sum12 (fun x hx => (hle x hx).1) hlt
    have e : (cntL (a :: t)).getD a.toNat 0 = (cntL (a :: t))[a.toNat] := by simp [List.getD_eq_getElem?_getD, hlt]
    omega
  · have h3 := many_le (cntL l)
    rw [cntL_len] at h3
    have h4 : 2 ^ 8 ≤ 2 ^ b := Nat.pow_le_pow_right (by decide) h8
    omega
/-- Shares of a text's counts may be laid, and are so many together. -/
theorem shares_may {l : List UInt8} (h0 : 0 < l.length) (h1 : l.length ≤ 600) {b : Nat} (h8 : 8 ≤ b) (h16 : b ≤ 16) {r : List Int} (h : NormR (cntL l) ((2 ^ b : Nat) : Int) r) : HistMay r ∧ r.sum = ((2 ^ b : Nat) : Int) := by
  have hc := cnt_may h0 h1 h8
  have hle := cntL_le l
  have hnn := fun x hx => (hle x hx).1
  obtain ⟨hal, hs⟩ := h.keeps hnn (Int.natCast_nonneg _) (by have := many_pos hnn; omega) hc.2.2
  have hp : 2 ^ b ≤ 65536 := Nat.pow_le_pow_right (n := 2) (by decide) h16
  refine ⟨⟨hal.1.trans (cntL_len l), fun x hx => ⟨all_nn14 hal x hx, ?_⟩⟩, hs⟩
  obtain ⟨i, hi, rfl⟩ := List.getElem_of_mem hx
  have := le_sum12 (all_nn14 hal) hi
  omega
theorem hGot_put {r : List Int} {T : Int} (hm : HistMay r) (hs : r.sum = T) (more : List UInt8) : hGot T (hPut r ++ more) = some (r, (hPut r).length) := by
  have h : hG [] (hPut r ++ more) 0 = some (r, (hPut r).length) := hGet_put hm.1 hm.2 more
  unfold hGot
  rw [h]
  simp only [filt, Option.bind_some]
  rw [if_pos hs]
set_option maxHeartbeats 2000000 in
set_option maxRecDepth 100000 in
theorem histBack_law (A : Option Addr) (L c : Nat) (l : List UInt8) (n : Nat) (A' : Option Addr) (L' c' : Nat) (l' : List UInt8) (w : World) (hr : Rd w w.heap.size A (bvs l)) (hL : l.length = L) (hL63 : L ≤ 9223372036854775807) (hn : n ≤ 255)
    (hr' : Rd w w.heap.size A' (bvs l')) (hL' : l'.length = L') (hL63' : L' ≤ 9223372036854775807) :
    Calls Try.prog 5 #[.slice A L c, .int .u8 (n : Int), .slice A' L' c'] w (Yes w) := by
  have CK := Lib.hid histKnown_any
  obtain ⟨b, hb⟩ : ∃ b, b = 8 + n % 9 := ⟨_, rfl⟩
  have hb8 : 8 ≤ b := by omega
  have hb16 : b ≤ 16 := by omega
  have hbi : (8 : Int) + (n : Int) % 9 = (b : Int) := by omega
  by_cases hout : 600 < L ∨ L = 0 ∨ 100 < L'
  · have HOUT := Lib.hid hout
    clear hr hL hr' hL' hb hbi hb8 hb16 hout
    by_cases g1 : 600 < L
    · have g1i : (600 : Int) < (L : Int) := by omega
      go_enter Try.func5, Try.ntmps5
      go_wp2_with fail
      refine (CK.out _).mono ?_
      rintro e w' ⟨rfl, hb⟩
      go_wp2
      go_ret
      exact ⟨rfl, hb⟩
    · have g1i : ¬ (600 : Int) < (L : Int) := by omega
      by_cases g2 : L = 0
      · subst g2
        go_enter Try.func5, Try.ntmps5
        go_wp2_with fail
        refine (CK.out _).mono ?_
        rintro e w' ⟨rfl, hb⟩
        go_wp2
        go_ret
        exact ⟨rfl, hb⟩
      · have g2i : ((L : Int) == 0) = false := by rw [beq_eq_false_iff_ne]; omega
        have g2j : ¬ (L : Int) = 0 := by omega
        have g3i : (100 : Int) < (L' : Int) := by have := HOUT.out; omega
        go_enter Try.func5, Try.ntmps5
        go_wp2_with fail
        refine (CK.out _).mono ?_
        rintro e w' ⟨rfl, hb⟩
        go_wp2
        go_ret
        exact ⟨rfl, hb⟩
  · have g1i : ¬ (600 : Int) < (L : Int) := by omega
    have g2j : ¬ (L : Int) = 0 := by omega
    have g3i : ¬ (100 : Int) < (L' : Int) := by omega
    have hL600 : L ≤ 600 := by omega
    have hL0 : 0 < L := by omega
    have hL100 : L' ≤ 100 := by omega
    obtain ⟨m1, m2, m3⟩ := cnt_may (l := l) (by omega) (by omega) hb8
    have C1 := Lib.hid (rnCount_any (m := c) hr hL (by omega))
    have C2 := Lib.hid (fun (W : World) (g : Nat) (h : Rd W W.heap.size (some ⟨g, 0, none⟩) (zvs (cntL l))) => rnNorm_ok (m := 256) b (2 ^ b) (by omega) hb16 rfl m1 h (cntL_len l) (by decide) m2 m3)
    have HSH := Lib.hid (fun (r : List Int) (h : NormR (cntL l) ((2 ^ b : Nat) : Int) r) => shares_may (by omega) (by omega) hb8 hb16 h)
    have HR' := Lib.hid hr'
    have HL' := Lib.hid hL'
    obtain ⟨i0, hi, hz0, hz1, hz2⟩ := info_parts info_u8
    clear hout m1 m2 m3 hr hL hb hr' hL'
    go_enter Try.func5, Try.ntmps5
    go_wp2_with fail
    refine C1.out.mono ?_
    rintro _ w1 ⟨g, rfl, -, hk1, hb1⟩
    have HK1 := Lib.hid hk1
    have HB1 := Lib.hid hb1
    clear hk1 hb1 C1
    go_wp2_with fail
    refine (C2.out w1 g (Rd.of_blk HK1.out)).mono ?_
    rintro _ w2 ⟨g2, cap, r, rfl, hnr, hown2, hb2⟩
    obtain ⟨hm, hs⟩ := HSH.out r hnr
    have HM := Lib.hid hm
    have HS := Lib.hid hs
    have HO2 := Lib.hid hown2
    have HB2 := Lib.hid (HB1.out.trans (hb2.mono HB1.out.size))
    have hcap : 256 ≤ cap := by
      obtain ⟨Ax, cx, he, hx, -, -⟩ := own_form hown2
      cases he
      exact hx
    clear hnr hm hs hown2 hb2 C2 HSH HK1 HB1
    have C3 := Lib.hid (histPut_ok (m := cap) (Rd.of_own HO2.out) HM.out.1 HM.out hcap)
    go_wp2_with fail
    refine C3.out.mono ?_
    rintro _ w3 ⟨v, rfl, hown3, hb3⟩
    have hql := hPutF_len r 0 HM.out.2 (by rw [HM.out.1]; decide)
    rw [HM.out.1] at hql
    obtain ⟨Q, hQ⟩ : ∃ Q, Q = hPut r := ⟨_, rfl⟩
    have hQl : Q.length ≤ 5130 := by rw [hQ]; exact hql
    rw [← hQ] at hown3
    obtain ⟨Av, cv, rfl, -, -, -⟩ := own_form hown3
    have HQ := Lib.hid hQ
    have HO3 := Lib.hid hown3
    have HR3 := Lib.hid (own_kept HO2.out hb3)
    have HB3 := Lib.hid (HB2.out.trans (hb3.mono HB2.out.size))
    clear hown3 hb3 C3 HO2 HB2 hql hQ
    obtain ⟨q, hq⟩ : ∃ q, q = Q.length := ⟨_, rfl⟩
    have HQL := Lib.hid hq
    rw [← hq] at HO3 hQl
    have HRv := Lib.hid ((Rd.of_own HO3.out).alloc (Nat.le_refl _) (.cells #[] 5))
    have HOW := Lib.hid (own_none12 w3 w3.heap.size 5 (Nat.le_refl _))
    have hb4 := (Below.refl w3.heap.size w3).alloc (Nat.le_refl _) (.cells #[] 5)
    have HZQ := Lib.hid (show (bvs Q).length = q * 1 by rw [bvs_length, hq, Nat.mul_one])
    have HZM := Lib.hid (show (bvs l').length = L' * 1 by rw [bvs_length, HL'.out, Nat.mul_one])
    have HRM := Lib.hid ((HR'.out.below HB3.out).more HB3.out.size)
    have hA1 : 0 + q ≤ maxLen := by simp only [maxLen]; omega
    have hA2 : (0 + q) * 1 ≤ 140737488355328 := by omega
    have hA3 : 0 + q + L' ≤ maxLen := by simp only [maxLen]; omega
    have hA4 : (0 + q + L') * 1 ≤ 140737488355328 := by omega
    simp only [← hq]
    have HHB4 := Lib.hid hb4
    clear hq hb4
    go_wp2_with (first
      | ((with_reducible show wpList _ _ _ (({ dst := some 56, op := _, type := _, pos := _, after := _, guard := _ } : Oper) :: _) _ _); go_must (refine wpList_app rfl (.tmp 54) (.tmp 55) 24 rfl w3.heap.size 5 i0 (.int .u8 0) 1 1 Try.underlying24 hi hz0 hz1 hz2 rfl (by decide) _ _ _ rfl HOW.out w3.heap.size Av q cv (bvs Q) rfl HRv.out HZQ.out (bvs_one _) hA1 hA2 (by simp) ?_; intro v4 w4 hown4 hg4; have hb4 := HHB4.out.grown hg4 HHB4.out.size (own_block HOW.out); clear hg4; have HO4 := Lib.hid hown4; have HB4 := Lib.hid hb4; have hRM4 := (HRM.out.below hb4); have HM4 := Lib.hid hRM4; clear hRM4 hown4 hb4))
      | ((with_reducible show wpList _ _ _ (({ dst := some 58, op := _, type := _, pos := _, after := _, guard := _ } : Oper) :: _) _ _); go_must (refine wpList_app rfl (.tmp 56) (.tmp 57) 24 rfl w3.heap.size 5 i0 (.int .u8 0) 1 1 Try.underlying24 hi hz0 hz1 hz2 rfl (by decide) _ _ _ rfl HO4.out w3.heap.size A' L' c' (bvs l') rfl HM4.out HZM.out (bvs_one _) hA3 hA4 HB4.out.size ?_; intro v5 w5 hown5 hg5; have hb5 := HB4.out.grown hg5 HB4.out.size (own_block HO4.out); clear hg5)))
    obtain ⟨A5, c5, rfl, hc5, -, -⟩ := own_form hown5
    rw [List.nil_append, ← bvs_append] at hown5
    have hgot := hGot_put HM.out HS.out l'
    rw [← HQ.out, ← HQL.out] at hgot
    have C5 := Lib.hid (histGet_any (w := w5) (l := Q ++ l') (n := 0 + q + L') (m := c5) b (2 ^ b) (by omega) hb16 rfl (Rd.of_own hown5) (by rw [List.length_append, HL'.out, ← HQL.out, Nat.zero_add]) hc5 (by omega))
    rw [hgot] at C5
    have HR5 := Lib.hid (own_kept HR3.out hb5)
    have HV5 := Lib.hid (own_kept HO3.out hb5)
    have HB5 := Lib.hid (HB3.out.trans (hb5.mono HB3.out.size))
    clear hown5 hc5 hgot hb5 HO4 HB4 HM4 HHB4 HRM HZM HZQ HOW HRv HO3 HR3 HB3 hA1 hA2 hA3 hA4
    refine C5.out.mono ?_
    rintro _ w6 ⟨hb6, -, S, rfl, hS⟩
    have C6 := Lib.hid (histPut_ok (m := 256) (Rd.of_blk hS) HM.out.1 HM.out (Nat.le_refl _))
    rw [← HQ.out, ← HQL.out] at C6
    have HS6 := Lib.hid hS
    have HR6 := Lib.hid (own_kept HR5.out hb6)
    have HV6 := Lib.hid (own_kept HV5.out hb6)
    have HB6 := Lib.hid (HB5.out.trans (hb6.mono HB5.out.size))
    clear hS hb6 C5 HR5 HV5 HB5
    go_wp2_with fail
    refine C6.out.mono ?_
    rintro _ w7 ⟨v7, rfl, hown7, hb7⟩
    obtain ⟨A7, c7, rfl, -, -, -⟩ := own_form hown7
    have C7 := Lib.hid (rnSame_yes (m := 256) (m' := cap) (Rd.of_blk (HS6.out.grow hb7)) (Rd.of_own (own_kept HR6.out hb7)) HM.out.1 (by decide))
    have HV7 := Lib.hid (own_kept HV6.out hb7)
    have HC7 := Lib.hid hown7
    have HB7 := Lib.hid (HB6.out.trans (hb7.mono HB6.out.size))
    clear hown7 hb7 C6 HS6 HR6 HV6 HB6
    go_wp2_with fail
    refine C7.out.mono ?_
    rintro _ w8 ⟨rfl, hb8⟩
    have HX := Lib.hid (show IsBytes Q (.slice A7 q c7) w8 from by
      have h := own_kept HC7.out hb8
      rw [HQL.out] at h ⊢
      exact IsBytes.of_own h)
    have HY := Lib.hid (show IsBytes Q (.slice Av q cv) w8 from by
      have h := own_kept HV7.out hb8
      rw [HQL.out] at h ⊢
      exact IsBytes.of_own h)
    have HB8 := Lib.hid (HB7.out.trans (hb8.mono HB7.out.size))
    clear hb8 C7 HV7 HC7 HB7
    go_wp2_with (first
      | ((with_reducible show wpList _ _ _ (({ dst := some 88, op := _, type := _, pos := _, after := _, guard := _ } : Oper) :: _) _ _); go_must (refine wpList_strW rfl 24 9 5 (.tmp 87) rfl Try.underlying24 Try.underlying5 Try.underlying9 _ HX.out ?_))
      | ((with_reducible show wpList _ _ _ (({ dst := some 90, op := _, type := _, pos := _, after := _, guard := _ } : Oper) :: _) _ _); go_must (refine wpList_strW rfl 24 9 5 (.tmp 89) rfl Try.underlying24 Try.underlying5 Try.underlying9 _ HY.out ?_)))
    refine (CK.out _).mono ?_
    rintro _ w9 ⟨rfl, hb9⟩
    have HB9 := Lib.hid (HB8.out.trans (hb9.mono HB8.out.size))
    clear hb9
    go_wp2
    go_ret
    exact ⟨rfl, HB9.out⟩
end Go.Proofs.Ytcaefobaochokaa
