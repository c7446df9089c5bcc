/- Layer 14: the law NormDoes. -/
import Derived.Test.YtomgbkakefjilaaNormKnown
namespace Go.Proofs.Ytomgbkakefjilaa
open Go.RowKit Go.Sort Go.Shelf

/-- Of such counts, and bits, both tell none. -/
def NoneOf (l : List Int) (bits err : Int) : Prop :=
  (∀ (W : World) (A : Option Addr) (n m : Nat), Rd W W.heap.size A (zvs l) → l.length = n → n ≤ 4096 → Calls Try.prog 9 #[.slice A n m, .int .i64 bits] W fun e w' => e = NoShares err ∧ Below W.heap.size W w') ∧
  ∀ (W : World) (A : Option Addr) (n m : Nat), Rd W W.heap.size A (zvs l) → l.length = n → n ≤ 4096 → Calls Try.prog 10 #[.slice A n m, .int .i64 bits] W fun e w' => e = NoShares err ∧ w' = W
/-- Of such both tell shares. -/
def SomeOf (l : List Int) (b T : Nat) : Prop := 1 ≤ b ∧ b ≤ 16 ∧ T = 2 ^ b ∧ l.any nBad = false ∧ many l ≠ 0 ∧ many l ≤ (T : Int)
theorem norm_either (l : List Int) (bits : Int) : (∃ err, (err = 2 ∨ err = 3) ∧ NoneOf l bits err) ∨ ∃ b T : Nat, bits = (b : Int) ∧ SomeOf l b T := by
  by_cases hb : bits < 1 ∨ 16 < bits
  · refine .inl ⟨2, .inl rfl, fun W A n m hr hn hn1 => normNorm_arg bits hr hn hn1 ?_, fun W A n m hr hn hn1 => rnNorm_arg bits 2 (.inl rfl) (rnCheck_bits bits hb)⟩
    rcases hb with h | h
    · exact .inl h
    · exact .inr (.inl h)
  · obtain ⟨b, rfl⟩ := Int.eq_ofNat_of_zero_le (show 0 ≤ bits by omega)
    have h1 : 1 ≤ b := by omega
    have h2 : b ≤ 16 := by omega
    cases hbad : l.any nBad with
    | true =>
      exact .inl ⟨2, .inl rfl, fun W A n m hr hn hn1 => normNorm_arg b hr hn hn1 (.inr (.inr hbad)), fun W A n m hr hn hn1 => rnNorm_arg b 2 (.inl rfl) (rnCheck_any b _ h1 h2 rfl hr hn hn1 2 (.inl ⟨hbad, rfl⟩))⟩
    | false =>
      by_cases hm : many l = 0 ∨ ((2 ^ b : Nat) : Int) < many l
      · exact .inl ⟨3, .inr rfl, fun W A n m hr hn hn1 => normNorm_range b _ h1 h2 rfl hbad hr hn hn1 hm, fun W A n m hr hn hn1 => rnNorm_arg b 3 (.inr rfl) (rnCheck_any b _ h1 h2 rfl hr hn hn1 3 (.inr ⟨hbad, .inl ⟨hm, rfl⟩⟩))⟩
      · exact .inr ⟨b, _, rfl, h1, h2, rfl, hbad, fun h => hm (.inl h), by omega⟩
set_option maxHeartbeats 2000000 in
theorem normDoes_law (bits : Int) (A : Option Addr) (L m : Nat) (l : List Int) (w : World) (hr : Rd w w.heap.size A (zvs l)) (hL : l.length = L) (hL63 : L ≤ 9223372036854775807) :
    Calls Try.prog 3 #[.slice A L m, .int .i64 bits] w (Yes w) := by
  have CK := Lib.hid normKnown_any
  by_cases h300 : 300 < L
  · have h2 : (300 : Int) < (L : Int) := by omega
    clear hr hL
    go_enter Try.func3, Try.ntmps3
    go_wp2_with fail
    refine (CK.out _).mono ?_
    rintro e w' ⟨rfl, hb⟩
    go_wp2
    go_ret
    exact ⟨rfl, hb⟩
  · have h2 : ¬ ((300 : Int) < (L : Int)) := by omega
    have HR := Lib.hid hr
    have HL := Lib.hid hL
    have HRa := Lib.hid (hr.alloc (Nat.le_refl _) (.cells #[] 3))
    have HOW := Lib.hid (own_none12 w w.heap.size 3 (Nat.le_refl _))
    have HZL := Lib.hid (show (zvs l).length = L * 1 by rw [zvs_length, hL, Nat.mul_one])
    have hA1 : 0 + L ≤ maxLen := by simp only [maxLen]; omega
    have hA2 : (0 + L) * 8 ≤ 140737488355328 := by omega
    obtain ⟨i0, hi, hz0, hz1, hz2⟩ := info_parts info_int12
    clear hr hL
    go_enter Try.func3, Try.ntmps3
    go_wp2_with ((with_reducible show wpList _ _ _ (({ dst := some 16, op := _, type := _, pos := _, after := _, guard := _ } : Oper) :: _) _ _); go_must (refine wpList_app rfl (.tmp 14) (.tmp 15) 22 rfl w.heap.size 3 i0 (.int .i64 0) 1 8 Try.underlying22 hi hz0 hz1 hz2 rfl (by decide) _ _ _ rfl HOW.out w.heap.size A L m (zvs l) rfl HRa.out HZL.out (zvs_one _) hA1 hA2 (by simp) ?_; intro v1 w1 hown1 hg1; have hb1 := ((Below.refl w.heap.size w).alloc (Nat.le_refl _) (.cells #[] 3)).grown hg1 (by simp) (own_block HOW.out); clear hg1))
    rw [Nat.zero_add, List.nil_append] at hown1
    obtain ⟨A1, c1, rfl, -, -, -⟩ := own_form hown1
    have HR1 := Lib.hid ((HR.out.below hb1).more hb1.size)
    have HO1 := Lib.hid (Rd.of_own hown1)
    have HB1 := Lib.hid hb1
    clear hown1 hb1 HRa HOW HZL hi hz0 hz1 hz2 hA1 hA2
    rcases norm_either l bits with ⟨err, -, h1, h2⟩ | ⟨b, T, rfl, h1, h2, h3, h4, h5, h6⟩
    · have C1 := Lib.hid (h1 w1 A1 L c1 HO1.out HL.out (by omega))
      have C2 := Lib.hid h2
      clear h1 h2
      go_wp2_with fail
      refine C1.out.mono ?_
      rintro e w2 ⟨rfl, hb2⟩
      have HR2 := Lib.hid ((HR1.out.below hb2).more hb2.size)
      have HO2 := Lib.hid ((HO1.out.below hb2).more hb2.size)
      have HB2 := Lib.hid (HB1.out.trans (hb2.mono HB1.out.size))
      clear hb2 C1
      unfold NoShares
      go_wp2_with fail
      refine (C2.out w2 A L m HR2.out HL.out (by omega)).mono ?_
      rintro e w' ⟨rfl, hw⟩
      obtain rfl : _ = w' := hw.symm
      unfold NoShares
      go_wp2_with fail
      refine (rnSame_yes (c := []) (Rd.nil_ _ 0 _) (Rd.nil_ _ 0 _) rfl (by decide)).mono ?_
      rintro e w3 ⟨rfl, hb3⟩
      have HR3 := Lib.hid ((HR2.out.below hb3).more hb3.size)
      have HO3 := Lib.hid ((HO2.out.below hb3).more hb3.size)
      have HB3 := Lib.hid (HB2.out.trans (hb3.mono HB2.out.size))
      clear hb3
      go_wp2_with fail
      refine (rnSame_yes HO3.out HR3.out HL.out (by omega)).mono ?_
      rintro e w4 ⟨rfl, hb4⟩
      have HB4 := Lib.hid (HB3.out.trans (hb4.mono HB3.out.size))
      clear hb4
      go_wp2_with fail
      refine (CK.out _).mono ?_
      rintro e w5 ⟨rfl, hb5⟩
      have HB5 := Lib.hid (HB4.out.trans (hb5.mono HB4.out.size))
      clear hb5
      go_wp2
      go_ret
      exact ⟨rfl, HB5.out⟩
    · have C1 := Lib.hid (normNorm_ok (m := c1) b T h1 h2 h3 h4 HO1.out HL.out (by omega) h5 h6)
      have C2 := Lib.hid (fun (W : World) (h : Rd W W.heap.size A (zvs l)) => rnNorm_ok (m := m) b T h1 h2 h3 h4 h HL.out (by omega) h5 h6)
      clear h1 h2 h3 h4 h5 h6
      go_wp2_with fail
      refine C1.out.mono ?_
      rintro e w2 ⟨g1, r, rfl, -, hr1, hk2, hb2⟩
      have HR2 := Lib.hid ((HR1.out.below hb2).more hb2.size)
      have HO2 := Lib.hid ((HO1.out.below hb2).more hb2.size)
      have HB2 := Lib.hid (HB1.out.trans (hb2.mono HB1.out.size))
      have HK2 := Lib.hid hk2
      have HN2 := Lib.hid hr1
      clear hb2 C1 hk2 hr1
      go_wp2_with fail
      refine (C2.out w2 HR2.out).mono ?_
      rintro e w3 ⟨g2, cap, r', rfl, hr2, hown2, hb3⟩
      obtain rfl := HN2.out.one hr2
      have HR3 := Lib.hid ((HR2.out.below hb3).more hb3.size)
      have HO3 := Lib.hid ((HO2.out.below hb3).more hb3.size)
      have HB3 := Lib.hid (HB2.out.trans (hb3.mono HB2.out.size))
      have HRL := Lib.hid (show r.length = L by have := hown2.1; rw [zvs_length] at this; omega)
      have HD1 := Lib.hid (Rd.of_blk (HK2.out.grow hb3))
      have HD2 := Lib.hid (Rd.of_own hown2)
      clear hb3 hr2 hown2 C2 HR2 HO2 HB2 HK2
      go_wp2_with fail
      refine (rnSame_yes HD1.out HD2.out HRL.out (by omega)).mono ?_
      rintro e w4 ⟨rfl, hb4⟩
      have HR4 := Lib.hid ((HR3.out.below hb4).more hb4.size)
      have HO4 := Lib.hid ((HO3.out.below hb4).more hb4.size)
      have HB4 := Lib.hid (HB3.out.trans (hb4.mono HB3.out.size))
      clear hb4
      go_wp2_with fail
      refine (rnSame_yes HO4.out HR4.out HL.out (by omega)).mono ?_
      rintro e w5 ⟨rfl, hb5⟩
      have HB5 := Lib.hid (HB4.out.trans (hb5.mono HB4.out.size))
      clear hb5
      go_wp2_with fail
      refine (CK.out _).mono ?_
      rintro e w6 ⟨rfl, hb6⟩
      have HB6 := Lib.hid (HB5.out.trans (hb6.mono HB5.out.size))
      clear hb6
      go_wp2
      go_ret
      exact ⟨rfl, HB6.out⟩
end Go.Proofs.Ytomgbkakefjilaa
