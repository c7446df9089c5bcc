/- Layer 24: the law MixDoes. -/
import Derived.Test.YtcilehndnbnmkaaMixKnown
import Derived.Test.YtcilehndnbnmkaaMixRef2
import Derived.Test.YtcilehndnbnmkaaMixArg
namespace Go.Proofs.Ytcilehndnbnmkaa
open Go.RowKit Go.Sort

/-- A mixer, and plain weights, beside one another. -/
structure MDuo (w wr : World) (B F n : Nat) (v : Value) (W : List Int) : Prop where
  f : IsMix wr F n W
  own : wr.ownsRow B 3 1 v n (zvs W)
  below : Below w.heap.size w wr
  lt : B ≤ wr.heap.size
  lo : w.heap.size ≤ F ∧ w.heap.size ≤ B
  ts : F < B
section
variable {w wr w2 w3 w4 : World} {B F n : Nat} {v v2 : Value} {W W2 : List Int}
theorem MDuo.grow {w' : World} (h : MDuo w wr B F n v W) (hb : Below wr.heap.size wr w') : MDuo w w' B F n v W :=
  ⟨h.f.grow hb, own_kept h.own hb, h.below.trans (hb.mono h.below.size), Nat.le_trans h.lt hb.size, h.lo, h.ts⟩
theorem MDuo.next (h : MDuo w wr B F n v W) (ho : w3.ownsRow wr.heap.size 3 1 v2 n (zvs W2)) (hb : Below wr.heap.size wr w3) (hm : IsMix w4 F n W2) (hu : TurnsB F F w3 w4) : MDuo w w4 B F n v2 W2 :=
  ⟨hm, own_more (own_turns ho hu h.f.fb.lt h.f.fb.lt) h.lt, (h.below.trans (hb.mono h.below.size)).trans (hu.below h.lo.1 h.lo.1 (Nat.le_trans h.below.size hb.size)), Nat.le_trans h.lt (Nat.le_trans hb.size hu.size), h.lo, h.ts⟩
end
/-- All that a step's numbers tell in a later world. -/
theorem LB.ok.at_ {w W : World} {s : LB} (h : s.ok w w.heap.size) (hb : Below w.heap.size w W) : Rd W W.heap.size s.A (zvs s.l) := (h.2.2.below hb).more hb.size

set_option maxHeartbeats 8000000 in
set_option maxRecDepth 100000 in
theorem mixDoes_some (n : Nat) (hn : 1 ≤ n ∧ n ≤ 8) (A : Option Addr) (L m : Nat) (ss : List LB) (w : World) (hr : RdLB w w.heap.size A ss) (hL : ss.length = L) (hL300 : L ≤ 300) :
    Calls Try.prog 5 #[.int .i64 (n : Int), .slice A L m] w (Yes w) := by
  have CK := Lib.hid mixKnown_any
  have CN := Lib.hid (mixNew_any n w hn)
  have CR := Lib.hid (fun w => xNew_any n w hn.2)
  have HN := Lib.hid hn
  have HR := Lib.hid hr
  have HL := Lib.hid hL
  obtain ⟨b1, b2⟩ := hn
  have a2 : ¬ ((300 : Int) < (L : Int)) := by omega
  have a3 : ¬ ((n : Int) < 1) := by omega
  have a4 : ¬ ((8 : Int) < (n : Int)) := by omega
  clear hr hL
  go_enter Try.func5, Try.ntmps5
  go_wp2_with fail
  refine CN.out.mono ?_
  rintro e w1 ⟨F, rfl, hf1, hF, hb1⟩
  have HF1 := Lib.hid hf1
  have HB1 := Lib.hid hb1
  have HFC := Lib.hid hF
  clear hf1 hb1 hF
  go_wp2_with fail
  refine (CR.out _).mono ?_
  rintro e w2 ⟨v2, rfl, ho2, hb2⟩
  have hdu : MDuo w w2 w1.heap.size F n v2 (List.replicate n 64) :=
    ⟨HF1.out.grow hb2, ho2, HB1.out.trans (hb2.mono HB1.out.size), hb2.size, ⟨HFC.out, HB1.out.size⟩, HF1.out.fb.lt⟩
  have HDU := Lib.hid hdu
  obtain ⟨B, hB⟩ : ∃ B, B = w1.heap.size := ⟨_, rfl⟩
  rw [← hB] at HDU
  clear hdu ho2 hb2 HF1 HFC HB1 hB
  go_wp2
  go_loopw [6, 7] (fun vv ii wr => ∃ (k : Nat) (W : List Int), k ≤ L ∧ ii = .int .i64 (k : Int) ∧ MDuo w wr B F n vv W) (fun _ ii _ => L - (intOf ii).toNat)
  case atStart => exact ⟨0, _, Nat.zero_le _, rfl, HDU.out⟩
  case round =>
    clear HDU
    obtain ⟨k, W, hk, rfl, hdu⟩ := hrel
    obtain ⟨Av, cv, rfl, -, -, -⟩ := own_form hdu.own
    have HDU := Lib.hid hdu
    clear hdu
    by_cases hlt : k < L
    · have hkl : k < ss.length := by have := HL.out; omega
      obtain ⟨hsok, b, off, rfl, hbl, hc0, hc1⟩ := HR.out k _ (List.getElem?_eq_getElem hkl)
      obtain ⟨s, hs⟩ : ∃ s, s = ss[k] := ⟨_, rfl⟩
      rw [← hs] at hc0 hc1 hsok
      obtain ⟨sA, sn, sc, sl, y⟩ := s
      have HSK := Lib.hid hsok
      simp only at hc0 hc1
      have HC := Lib.hid (fun (W : World) (h : Below w.heap.size w W) => And.intro ((h.cell (p := ⟨b, off + k * 2, none⟩) hbl).trans hc0) ((h.cell (p := ⟨b, off + k * 2 + 1, none⟩) hbl).trans hc1))
      obtain ⟨d0, d1⟩ := HC.out wr HDU.out.below
      have hki : (k : Int) < (L : Int) := by omega
      clear hc0 hc1 hbl hs hkl hsok
      by_cases hln : sn = n
      · subst hln
        have hlen : sl.length = sn := HSK.out.1
        have hrs := fun (W : World) (h : Below w.heap.size w W) => HSK.out.at_ h
        simp only at hrs
        have HRS := Lib.hid hrs
        have HLEN := Lib.hid hlen
        have CQ := Lib.hid (xP_any (m := cv) (m' := sc) HDU.out.f.wts HN.out (Rd.of_own HDU.out.own) (hrs wr HDU.out.below) hlen)
        obtain ⟨pm, hpm⟩ : ∃ pm, pm = mixM W sl := ⟨_, rfl⟩
        rw [← hpm] at CQ
        have HPM := Lib.hid hpm
        clear hpm hlen hrs
        go_wp2_with fail
        refine CQ.out.mono ?_
        rintro e w1 ⟨rfl, j, hwj⟩
        have hdu1 := HDU.out.grow (w' := w1) (by rw [hwj]; exact below_drawn wr j)
        have HD1 := Lib.hid hdu1
        have CX := Lib.hid (xSeen_any (w := w1.drew) (m := cv) (m' := sc) y hdu1.f.wts HN.out (Rd.of_own hdu1.own).drew (HRS.out w1 hdu1.below).drew HLEN.out)
        clear hwj d0 d1
        obtain ⟨d0, d1⟩ := HC.out w1 hdu1.below
        clear hdu1
        go_wp2
        refine wp_region_still_tail 11 (by kernel_rfl) (by kernel_rfl) ?_
        simp only [List.take_succ_cons, List.take_zero, List.drop_succ_cons, List.drop_zero]
        repeat still_step
        refine wpStill_nil ?_
        change wpList _ _ _ _ _ w1.drew
        go_wp2_with fail
        refine CX.out.mono ?_
        rintro e w2 ⟨v2, rfl, ho2, hb2⟩
        obtain ⟨A2, c2, rfl, -, -, -⟩ := own_form ho2
        have hb2' : Below w1.heap.size w1 w2 := ((Below.refl _ w1).drew).trans hb2
        have hdu2 := HD1.out.grow hb2'
        have HD2 := Lib.hid hdu2
        have HO2 := Lib.hid (And.intro ho2 hb2')
        have CP := Lib.hid (mixP_any (m := sc) hdu2.f (HRS.out w2 hdu2.below) HLEN.out)
        rw [← HPM.out] at CP
        clear ho2 hb2 hb2' d0 d1
        obtain ⟨d0, d1⟩ := HC.out w2 hdu2.below
        clear hdu2
        go_wp2_with fail
        refine CP.out.mono ?_
        rintro e w3 ⟨rfl, j, hwj⟩
        have hb3 : Below w2.heap.size w2 w3 := by rw [hwj]; exact below_drawn w2 j
        have hdu3 := HD2.out.grow hb3
        have CS := Lib.hid (mixSeen_any (w := w3.drew) (m := sc) y (hdu3.f.same rfl) (rd_turns (HSK.out.2.2.below hdu3.below).drew hdu3.lo.1 hdu3.below.size) HLEN.out)
        have HB3 := Lib.hid hb3
        clear hwj hb3 d0 d1
        obtain ⟨d0, d1⟩ := HC.out w3 hdu3.below
        clear hdu3
        go_wp2
        refine wp_region_still_tail 11 (by kernel_rfl) (by kernel_rfl) ?_
        simp only [List.take_succ_cons, List.take_zero, List.drop_succ_cons, List.drop_zero]
        repeat still_step
        refine wpStill_nil ?_
        change wpList _ _ _ _ _ w3.drew
        go_wp2_with fail
        refine CS.out.mono ?_
        rintro e w4 ⟨⟨u, rfl⟩, hm4, hu4⟩
        have hdu4 := HD1.out.next (own_kept HO2.out.1 HB3.out) (HO2.out.2.trans (HB3.out.mono HO2.out.2.size)) hm4 (((TurnsB.refl F F w3).drew).trans hu4)
        have HD4 := Lib.hid hdu4
        have CWT := Lib.hid (mixWeights_any hdu4.f)
        clear hm4 hu4 d0 d1 hdu4
        go_wp2_with fail
        refine CWT.out.mono ?_
        rintro e w5 ⟨v5, rfl, ho5, hb5⟩
        obtain ⟨A5, c5, rfl, -, -, -⟩ := own_form ho5
        have hdu5 := HD4.out.grow hb5
        have HD5 := Lib.hid hdu5
        have CSA := Lib.hid (rnSame_yes (m := c5) (m' := c2) (Rd.of_own ho5) (Rd.of_own hdu5.own) hdu5.f.wts.len (by have := HN.out; omega))
        clear ho5 hb5 hdu5
        go_wp2_with fail
        refine CSA.out.mono ?_
        rintro e w6 ⟨rfl, hb⟩
        have HD6 := Lib.hid (HD5.out.grow hb)
        clear hb
        go_wp2
        refine ⟨⟨k + 1, _, by omega, by go_num, HD6.out⟩, by simp [intOf]; omega⟩
      · have hlq : ((sn : Int) == (n : Int)) = false := beq_eq_false_iff_ne.2 (by omega)
        have CP := Lib.hid (mixP_no sA sn sc HDU.out.f hln)
        have CS := Lib.hid (mixSeen_no (w := wr.drew) sA sn sc y (HDU.out.f.same rfl) hln)
        have HD1 := Lib.hid (HDU.out.grow (w' := wr.drew) (by exact below_drawn wr 1))
        have CWT := Lib.hid (mixWeights_any HD1.out.f)
        go_wp2_with fail
        refine CP.out.mono ?_
        rintro e w' ⟨rfl, hw⟩
        obtain rfl : _ = w' := hw.symm
        go_wp2
        refine wp_region_still_tail 11 (by kernel_rfl) (by kernel_rfl) ?_
        simp only [List.take_succ_cons, List.take_zero, List.drop_succ_cons, List.drop_zero]
        repeat still_step
        refine wpStill_nil ?_
        change wpList _ _ _ _ _ wr.drew
        go_wp2_with fail
        refine CS.out.mono ?_
        rintro e w4 ⟨⟨u, rfl⟩, hw⟩
        obtain ⟨w1, hw1⟩ : ∃ w1, w1 = wr.drew := ⟨_, rfl⟩
        rw [← hw1] at hw HD1 CWT
        obtain rfl : w1 = w4 := hw.symm
        clear d0 d1 hw1
        go_wp2_with fail
        refine CWT.out.mono ?_
        rintro e w5 ⟨v5, rfl, ho5, hb5⟩
        obtain ⟨A5, c5, rfl, -, -, -⟩ := own_form ho5
        have hdu5 := HD1.out.grow hb5
        have HD5 := Lib.hid hdu5
        have CSA := Lib.hid (rnSame_yes (m := c5) (m' := cv) (Rd.of_own ho5) (Rd.of_own hdu5.own) hdu5.f.wts.len (by have := HN.out; omega))
        clear ho5 hb5 hdu5
        go_wp2_with fail
        refine CSA.out.mono ?_
        rintro e w6 ⟨rfl, hb⟩
        have HD6 := Lib.hid (HD5.out.grow hb)
        clear hb
        go_wp2
        refine ⟨⟨k + 1, _, by omega, by go_num, HD6.out⟩, by simp [intOf]; omega⟩
    · obtain rfl : k = L := by omega
      go_wp2_with fail
      refine (CK.out _).mono ?_
      rintro e w3 hy
      obtain ⟨rfl, hb3⟩ : Yes w e w3 := ⟨hy.1, HDU.out.below.trans (hy.2.mono HDU.out.below.size)⟩
      go_wp2
      go_ret
      exact ⟨rfl, hb3⟩

set_option maxHeartbeats 1000000 in
set_option maxRecDepth 100000 in
theorem mixDoes_law (n : Int) (A : Option Addr) (L m : Nat) (ss : List LB) (w : World) (hr : RdLB w w.heap.size A ss) (hL : ss.length = L) (hL63 : L ≤ 9223372036854775807) :
    Calls Try.prog 5 #[.int .i64 n, .slice A L m] w (Yes w) := by
  have CK := Lib.hid mixKnown_any
  by_cases h300 : 300 < L
  · have h2 : (300 : Int) < (L : Int) := by omega
    clear hr hL
    go_enter Try.func5, Try.ntmps5
    go_wp2_with fail
    refine (CK.out _).mono ?_
    rintro e w' ⟨rfl, hb⟩
    go_wp2
    go_ret
    exact ⟨rfl, hb⟩
  by_cases hbad : 1 ≤ n ∧ n ≤ 8
  · obtain ⟨k, rfl⟩ := Int.eq_ofNat_of_zero_le (show 0 ≤ n by omega)
    exact mixDoes_some k (by omega) A L m ss w hr hL (by omega)
  · have h2 : ¬ ((300 : Int) < (L : Int)) := by omega
    have CN := Lib.hid (fun w => mixNew_bad n w hbad)
    have CS := Lib.hid (mixSeen_nil none 0 0 1)
    have CP := Lib.hid (mixP_nil none 0 0)
    have CW := Lib.hid mixWeights_nil
    clear hr hL
    by_cases h1 : n < 1
    · clear hbad
      go_enter Try.func5, Try.ntmps5
      go_wp2_with fail
      refine (CN.out _).mono ?_
      rintro e w' ⟨rfl, hw⟩
      obtain rfl : _ = w' := hw.symm
      go_wp2_with fail
      refine (CS.out _).mono ?_
      rintro e w' ⟨⟨u, rfl⟩, hw⟩
      obtain rfl : _ = w' := hw.symm
      go_wp2_with fail
      refine (CP.out _).mono ?_
      rintro e w' ⟨rfl, hw⟩
      obtain rfl : _ = w' := hw.symm
      go_wp2_with fail
      refine (CW.out _).mono ?_
      rintro e w' ⟨rfl, hw⟩
      obtain rfl : _ = w' := hw.symm
      go_wp2_with fail
      refine (CK.out _).mono ?_
      rintro e w' ⟨rfl, hb⟩
      go_wp2
      go_ret
      exact ⟨rfl, hb⟩
    · have h3 : 8 < n := by omega
      clear hbad
      go_enter Try.func5, Try.ntmps5
      go_wp2_with fail
      refine (CN.out _).mono ?_
      rintro e w' ⟨rfl, hw⟩
      obtain rfl : _ = w' := hw.symm
      go_wp2_with fail
      refine (CS.out _).mono ?_
      rintro e w' ⟨⟨u, rfl⟩, hw⟩
      obtain rfl : _ = w' := hw.symm
      go_wp2_with fail
      refine (CP.out _).mono ?_
      rintro e w' ⟨rfl, hw⟩
      obtain rfl : _ = w' := hw.symm
      go_wp2_with fail
      refine (CW.out _).mono ?_
      rintro e w' ⟨rfl, hw⟩
      obtain rfl : _ = w' := hw.symm
      go_wp2_with fail
      refine (CK.out _).mono ?_
      rintro e w' ⟨rfl, hb⟩
      go_wp2
      go_ret
      exact ⟨rfl, hb⟩
end Go.Proofs.Ytcilehndnbnmkaa
