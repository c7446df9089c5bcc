/- Layer 20: the law LensOf. -/
import Derived.Test.YtgcegdjnemlcoaaLensKn
namespace Go.Proofs.Ytgcegdjnemlcoaa
open Go.RowKit Go.Sort Go.Shelf

theorem LensOfR.len {c o : List Int} (h : LensOfR c o) : o.length = c.length := by
  induction h with
  | done c o h hs => exact h.len
  | half c o r h hs hr ih => rw [ih, List.length_map]
set_option maxHeartbeats 4000000 in
set_option maxRecDepth 100000 in
theorem lensOf_law (A : Option Addr) (L m : Nat) (l : List Int) (w : World) (hr : Rd w w.heap.size A (zvs l)) (hL : l.length = L) (hL63 : L ≤ 9223372036854775807) :
    Calls Try.prog 3 #[.slice A L m] w (Yes w) := by
  have CK := Lib.hid lensKnown_any
  by_cases h300 : 80 < L
  · have h2 : (80 : Int) < (L : Int) := by omega
    clear hr hL
    go_enter Try.func3, Try.ntmps3
    go_wp2_with fail
    refine (CK.out _).mono ?_
    rintro e w' ⟨rfl, hb⟩
    go_wp2
    go_ret
    exact ⟨rfl, hb⟩
  · have h2 : ¬ ((80 : Int) < (L : Int)) := by omega
    have HR := Lib.hid hr
    have HL := Lib.hid hL
    have HRa := Lib.hid (hr.alloc (Nat.le_refl _) (.cells #[] 3))
    have HOW := Lib.hid (own_none12 w w.heap.size 3 (Nat.le_refl _))
    have HZL := Lib.hid (show (zvs l).length = L * 1 by rw [zvs_length, hL, Nat.mul_one])
    have hA1 : 0 + L ≤ maxLen := by simp only [maxLen]; omega
    have hA2 : (0 + L) * 8 ≤ 140737488355328 := by omega
    obtain ⟨i0, hi, hz0, hz1, hz2⟩ := info_parts info_int12
    clear hr hL
    go_enter Try.func3, Try.ntmps3
    go_wp2_with ((with_reducible show wpList _ _ _ (({ dst := some 10, op := _, type := _, pos := _, after := _, guard := _ } : Oper) :: _) _ _); go_must (refine wpList_app rfl (.tmp 8) (.tmp 9) 22 rfl w.heap.size 3 i0 (.int .i64 0) 1 8 Try.underlying22 hi hz0 hz1 hz2 rfl (by decide) _ _ _ rfl HOW.out w.heap.size A L m (zvs l) rfl HRa.out HZL.out (zvs_one _) hA1 hA2 (by simp) ?_; intro v1 w1 hown1 hg1; have hb1 := ((Below.refl w.heap.size w).alloc (Nat.le_refl _) (.cells #[] 3)).grown hg1 (by simp) (own_block HOW.out); clear hg1))
    rw [Nat.zero_add, List.nil_append] at hown1
    obtain ⟨A1, c1, rfl, -, -, -⟩ := own_form hown1
    have HR1 := Lib.hid ((HR.out.below hb1).more hb1.size)
    have HO1 := Lib.hid (Rd.of_own hown1)
    have HB1 := Lib.hid hb1
    clear hown1 hb1 HRa HOW HZL hi hz0 hz1 hz2 hA1 hA2
    cases hbad : l.any nBad with
    | true =>
      have C1 := Lib.hid (lens_bad (m := c1) HO1.out HL.out (.inr hbad))
      have C2 := Lib.hid (ref_Of (m := m) HR1.out HL.out (by omega))
      have HBAD := Lib.hid hbad
      clear hbad
      go_wp2_with fail
      refine C1.out.mono ?_
      rintro e w2 ⟨rfl, hw2⟩
      subst hw2
      go_wp2_with fail
      refine C2.out.mono ?_
      rintro e w2 ⟨he, hb2⟩
      obtain rfl : e = .returned (.slice none 0 0) := by
        rcases he with ⟨h, -⟩ | ⟨v, out, -, h, -⟩
        · exact h
        · rw [HBAD.out] at h; cases h
      have HR3 := Lib.hid ((HR1.out.below hb2).more hb2.size)
      have HO3 := Lib.hid ((HO1.out.below hb2).more hb2.size)
      have HB3 := Lib.hid (HB1.out.trans (hb2.mono HB1.out.size))
      clear hb2 he C1 C2
      go_wp2_with fail
      refine (same_yesL (c := []) (Rd.nil_ _ 0 _) (Rd.nil_ _ 0 _) rfl (by decide)).mono ?_
      rintro e w4 ⟨rfl, hb4⟩
      have HR4 := Lib.hid ((HR3.out.below hb4).more hb4.size)
      have HO4 := Lib.hid ((HO3.out.below hb4).more hb4.size)
      have HB4 := Lib.hid (HB3.out.trans (hb4.mono HB3.out.size))
      clear hb4
      go_wp2_with fail
      refine (same_yesL HO4.out HR4.out HL.out (by omega)).mono ?_
      rintro e w5 ⟨rfl, hb5⟩
      have HB5 := Lib.hid (HB4.out.trans (hb5.mono HB4.out.size))
      clear hb5
      go_wp2_with fail
      refine (CK.out _).mono ?_
      rintro e w6 ⟨rfl, hb6⟩
      have HB6 := Lib.hid (HB5.out.trans (hb6.mono HB5.out.size))
      clear hb6
      go_wp2
      go_ret
      exact ⟨rfl, HB6.out⟩
    | false =>
      have hgood := good_bad.1 hbad
      have C1 := Lib.hid (lens_Of (m := c1) HO1.out HL.out (by omega) hgood)
      have HBAD := Lib.hid hbad
      clear hbad
      go_wp2_with fail
      refine C1.out.mono ?_
      rintro e w2 ⟨v2, o2, rfl, ho2, hv2, hb2⟩
      have HR2 := Lib.hid ((HR1.out.below hb2).more hb2.size)
      have HO2 := Lib.hid ((HO1.out.below hb2).more hb2.size)
      have HB2 := Lib.hid (HB1.out.trans (hb2.mono HB1.out.size))
      have HV2 := Lib.hid (And.intro hv2 ho2)
      have C2 := Lib.hid (ref_Of (m := m) HR2.out HL.out (by omega))
      clear hb2 hv2 ho2 C1 hgood
      go_wp2_with fail
      refine C2.out.mono ?_
      rintro e w3 ⟨he, hb3⟩
      obtain ⟨v3, rfl, hv3⟩ : ∃ v, e = .returned v ∧ LensV w2.heap.size o2 v w3 := by
        rcases he with ⟨-, h⟩ | ⟨v, out, h1, -, h2, h3⟩
        · rw [HBAD.out] at h; cases h
        · rw [HV2.out.2.one h2]; exact ⟨v, h1, h3⟩
      obtain ⟨A2, n2, rfl, hn2, hr2⟩ := (HV2.out.1.grow (w' := w3) (hb3)).rd
      obtain ⟨A3, n3, rfl, hn3, hr3⟩ := hv3.rd
      obtain rfl : n3 = n2 := by omega
      have HR3 := Lib.hid ((HR2.out.below hb3).more hb3.size)
      have HO3 := Lib.hid ((HO2.out.below hb3).more hb3.size)
      have HB3 := Lib.hid (HB2.out.trans (hb3.mono HB2.out.size))
      have HS2 := Lib.hid (And.intro hr2 (And.intro hr3 hn3))
      clear he hb3 hv3 hr2 hr3 hn2 hn3 C2
      have hn3 : n3 ≤ 4096 := by rw [← HS2.out.2.2, HV2.out.2.len, HL.out]; omega
      go_wp2_with fail
      refine (same_yesL HS2.out.1 HS2.out.2.1 HS2.out.2.2 hn3).mono ?_
      rintro e w4 ⟨rfl, hb4⟩
      have HR4 := Lib.hid ((HR3.out.below hb4).more hb4.size)
      have HO4 := Lib.hid ((HO3.out.below hb4).more hb4.size)
      have HB4 := Lib.hid (HB3.out.trans (hb4.mono HB3.out.size))
      clear hb4
      go_wp2_with fail
      refine (same_yesL HO4.out HR4.out HL.out (by omega)).mono ?_
      rintro e w5 ⟨rfl, hb5⟩
      have HB5 := Lib.hid (HB4.out.trans (hb5.mono HB4.out.size))
      clear hb5
      go_wp2_with fail
      refine (CK.out _).mono ?_
      rintro e w6 ⟨rfl, hb6⟩
      have HB6 := Lib.hid (HB5.out.trans (hb6.mono HB5.out.size))
      clear hb6
      go_wp2
      go_ret
      exact ⟨rfl, HB6.out⟩
end Go.Proofs.Ytgcegdjnemlcoaa
