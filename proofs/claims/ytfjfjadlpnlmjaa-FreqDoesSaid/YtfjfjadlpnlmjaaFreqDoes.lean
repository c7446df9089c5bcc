/- Layer 13: the law FreqDoes. -/
import Derived.Test.YtfjfjadlpnlmjaaFreqRef
namespace Go.Proofs.Ytfjfjadlpnlmjaa
open Go.RowKit Go.Sort

/-- Counts, and plain counts, beside one another. -/
structure Duo (w wr : World) (B F T S M n : Nat) (v : Value) (c : List Int) (st mo : Int) : Prop where
  f : IsFreq wr F T S c st mo
  m : RF wr B M n v c st mo
  ones : Ones n c
  sum : c.sum ≤ mo
  below : Below w.heap.size w wr
  lt : B ≤ wr.heap.size
  lo : w.heap.size ≤ T ∧ w.heap.size ≤ S ∧ w.heap.size ≤ B
  ts : F < B ∧ T < B ∧ S < B
theorem Duo.grow {w wr w' : World} {B F T S M n : Nat} {v : Value} {c : List Int} {st mo : Int} (h : Duo w wr B F T S M n v c st mo) (hb : Below wr.heap.size wr w') : Duo w w' B F T S M n v c st mo :=
  ⟨h.f.grow hb, h.m.grow hb, h.ones, h.sum, h.below.trans (hb.mono h.below.size), Nat.le_trans h.lt hb.size, h.lo, h.ts⟩
theorem IsFreq.under {w w' : World} {F T S B : Nat} {c : List Int} {st mo : Int} (h : IsFreq w F T S c st mo) (hb : Below B w w') (h1 : F < B ∧ T < B ∧ S < B) : IsFreq w' F T S c st mo :=
  ⟨h.fb.below hb h1.1, h.tree.1, h.tree.2.tb.below hb h1.2.1, h.tree.2.sb.below hb h1.2.2⟩
/-- One letter seen by both. -/
theorem Duo.seen {w wr w3 w4 : World} {B F T S M n : Nat} {v v' : Value} {c c1 r r' : List Int} {st mo : Int} (h : Duo w wr B F T S M n v c st mo) (ho : Ones n c1)
    (hr : Shrunk mo c1 r) (hm : RF w3 B M n v' r st mo) (hb : Below B wr w3) (hr' : Shrunk mo c1 r') (hf : IsFreq w4 F T S r' st mo) (hu : TurnsB T S w3 w4) : Duo w w4 B F T S M n v' r st mo := by
  have e := hr.one hr'
  subst e
  have hl := h.lo
  have hb3 := h.below.trans (hb.mono hl.2.2)
  exact ⟨hf, hm.turns hu h.ts.2.1 h.ts.2.2, (hr.ones ho).1, (hr.ones ho).2, hb3.trans (hu.below hl.1 hl.2.1 hb3.size), Nat.le_trans h.lt (Nat.le_trans hb.size hu.size), hl, h.ts⟩

set_option maxHeartbeats 8000000 in
set_option maxRecDepth 100000 in
theorem freqDoes_some (n : Nat) (st mo v : Int) (hMay : MayF (n : Int) st mo) (h60 : n ≤ 60) (A : Option Addr) (L m : Nat) (l : List Int) (w : World) (hr : Rd w w.heap.size A (zvs l)) (hL : l.length = L) (hL100 : L ≤ 100) :
    Calls Try.prog 6 #[.int .i64 (n : Int), .int .i64 st, .int .i64 mo, .slice A L m, .int .i64 v] w (Yes w) := by
  have CK := Lib.hid freqKnown_any
  have CN := Lib.hid (freqNew_any n st mo w hMay)
  have CM := Lib.hid (fun w => rMay_yes (n : Int) st mo w hMay)
  have CR := Lib.hid (fun w => rNew_any n st mo w h60)
  have HM := Lib.hid hMay
  have HR := Lib.hid hr
  have HL := Lib.hid hL
  have a1 : ¬ ((60 : Int) < (n : Int)) := by omega
  have a2 : ¬ ((100 : Int) < (L : Int)) := by omega
  clear hMay hr hL
  go_enter Try.func6, Try.ntmps6
  go_wp2_with fail
  refine CN.out.mono ?_
  rintro e w1 ⟨F, rfl, T, S, hf1, ⟨hF, hT, hS⟩, hb1⟩
  have HF1 := Lib.hid hf1
  have HB1 := Lib.hid hb1
  have HTS := Lib.hid (And.intro hF (And.intro hT hS))
  clear hf1 hb1 hF hT hS
  go_wp2_with fail
  refine (CM.out _).mono ?_
  rintro e w' ⟨rfl, hw⟩
  obtain rfl : _ = w' := hw.symm
  go_wp2_with fail
  refine (CR.out _).mono ?_
  rintro e w2 ⟨M, rfl, ⟨v2, hm2⟩, hb2⟩
  have hdu : Duo w w2 w1.heap.size F T S M n v2 (List.replicate n 1) st mo :=
    ⟨HF1.out.grow hb2, hm2, ones_rep n, by have := HM.out; unfold MayF at this; simp; omega, HB1.out.trans (hb2.mono HB1.out.size), hb2.size, ⟨HTS.out.2.1, HTS.out.2.2, HB1.out.size⟩, HF1.out.fb.lt, HF1.out.tree.2.tb.lt, HF1.out.tree.2.sb.lt⟩
  have HDU := Lib.hid hdu
  obtain ⟨B, hB⟩ : ∃ B, B = w1.heap.size := ⟨_, rfl⟩
  rw [← hB] at HDU
  clear hdu hm2 hb2 HF1 HTS HB1 hB
  go_wp2
  go_loopw [13] (fun ii wr => ∃ (k : Nat) (c : List Int) (v' : Value), k ≤ L ∧ ii = .int .i64 (k : Int) ∧ Duo w wr B F T S M n v' c st mo) (fun ii _ => L - (intOf ii).toNat)
  case atStart => exact ⟨0, _, _, Nat.zero_le _, rfl, HDU.out⟩
  case round =>
    clear HDU
    obtain ⟨k, c, v', hk, rfl, hdu⟩ := hrel
    obtain ⟨A', m', rfl, -, -, hform⟩ := own_form hdu.m.own
    have HDU := Lib.hid hdu
    have HFORM := Lib.hid hform
    clear hdu hform
    by_cases hlt : k < L
    · have hkl : k < l.length := by have := HL.out; omega
      obtain ⟨b, off, rfl, hbl, hc0⟩ := HR.out k (.int .i64 (l[k]'hkl)) (by rw [zvs_get, List.getElem?_eq_getElem hkl]; rfl)
      have hcell := (HDU.out.below.cell (p := ⟨b, off + k, none⟩) hbl).trans hc0
      have HC0 := Lib.hid (fun (W : World) (h : Below w.heap.size w W) => (h.cell (p := ⟨b, off + k, none⟩) hbl).trans hc0)
      obtain ⟨x, hx⟩ : ∃ x, x = l[k]'hkl := ⟨_, rfl⟩
      rw [← hx] at hcell HC0
      have hki : (k : Int) < (L : Int) := by omega
      clear hc0 hbl hx hkl
      by_cases hI : 0 ≤ x ∧ x < (n : Int)
      · obtain ⟨hx0, hxn⟩ := hI
        obtain ⟨j, rfl⟩ := Int.eq_ofNat_of_zero_le hx0
        have hjc : j < c.length := by rw [HDU.out.ones.1]; omega
        have hMy := HM.out
        unfold MayF at hMy
        have ho : Ones c.length c := by rw [HDU.out.ones.1]; exact HDU.out.ones
        have CS1 := Lib.hid (rSeen_any j HDU.out.m HDU.out.ones hjc (by omega) (by have := HDU.out.sum; omega) (by omega) (by omega) h60 (by omega) HDU.out.lt)
        have CS2 := Lib.hid (fun (W : World) (h : IsFreq W F T S c st mo) => freqSeen_any (w := W) j h ho hjc (by omega) (by have := HDU.out.sum; omega) (by rw [HDU.out.ones.1]; omega))
        have HO1 := Lib.hid (HDU.out.ones.set hjc (d := st) (by omega))
        obtain ⟨c1, hc1⟩ : ∃ c1, c1 = c.set j (c[j]'hjc + st) := ⟨_, rfl⟩
        rw [← hc1] at CS1 CS2 HO1
        clear hc1 ho hjc
        go_wp2_with fail
        refine CS1.out.mono ?_
        rintro e w3 ⟨⟨u, rfl⟩, ⟨r, v3, hr3, hm3⟩, hb3⟩
        have HF3 := Lib.hid (HDU.out.f.under hb3 HDU.out.ts)
        have hcell3 := HC0.out w3 (HDU.out.below.trans (hb3.mono HDU.out.lo.2.2))
        have H3 := Lib.hid (And.intro hr3 (And.intro hm3 hb3))
        clear hr3 hm3 hb3
        go_wp2_with fail
        refine (CS2.out _ HF3.out).mono ?_
        rintro e w4 ⟨rfl, ⟨r', hr4, hf4⟩, hu4⟩
        have hdu := HDU.out.seen HO1.out H3.out.1 H3.out.2.1 H3.out.2.2 hr4 hf4 hu4
        obtain ⟨A4, m4, rfl, -, -, -⟩ := own_form hdu.m.own
        have HDU4 := Lib.hid hdu
        have HTT := Lib.hid (freqTotal_any hdu.f)
        have HRT := Lib.hid (rTotal_any hdu.m hdu.f.tree.1.2.1 (Int.le_trans hdu.f.tree.1.2.2 (by decide)) h60)
        obtain ⟨tot, htot⟩ : ∃ t, t = r.sum := ⟨_, rfl⟩
        rw [← htot] at HTT HRT
        clear hr4 hf4 hu4 hdu htot hcell hcell3
        go_wp2_with fail
        refine HTT.out.mono ?_
        rintro e w' ⟨rfl, hw⟩
        obtain rfl : _ = w' := hw.symm
        go_wp2_with fail
        refine HRT.out.mono ?_
        rintro e w5 ⟨rfl, hb5⟩
        have HDU5 := Lib.hid (HDU4.out.grow hb5)
        clear hb5
        go_wp2
        go_roundw
        case rel => exact ⟨k + 1, r, _, by omega, by go_num, HDU5.out⟩
        case measure => simp [intOf]; omega
      · have CS3 := Lib.hid (freqSeen_out x HDU.out.f (by rw [HDU.out.ones.1]; exact hI))
        by_cases hx0 : 0 ≤ x
        · have hxn : ¬ (x < (n : Int)) := by omega
          clear hI
          go_wp2_with fail
          refine CS3.out.mono ?_
          rintro e w4 ⟨rfl, hb4⟩
          have hdu := HDU.out.grow hb4
          have HDU4 := Lib.hid hdu
          have HTT := Lib.hid (freqTotal_any hdu.f)
          have HRT := Lib.hid (rTotal_any hdu.m hdu.f.tree.1.2.1 (Int.le_trans hdu.f.tree.1.2.2 (by decide)) h60)
          obtain ⟨tot, htot⟩ : ∃ t, t = c.sum := ⟨_, rfl⟩
          rw [← htot] at HTT HRT
          clear hb4 hdu htot hcell
          go_wp2_with fail
          refine HTT.out.mono ?_
          rintro e w' ⟨rfl, hw⟩
          obtain rfl : _ = w' := hw.symm
          go_wp2_with fail
          refine HRT.out.mono ?_
          rintro e w5 ⟨rfl, hb5⟩
          have HDU5 := Lib.hid (HDU4.out.grow hb5)
          clear hb5
          go_wp2
          go_roundw
          case rel => exact ⟨k + 1, c, _, by omega, by go_num, HDU5.out⟩
          case measure => simp [intOf]; omega
        · clear hI
          go_wp2_with fail
          refine CS3.out.mono ?_
          rintro e w4 ⟨rfl, hb4⟩
          have hdu := HDU.out.grow hb4
          have HDU4 := Lib.hid hdu
          have HTT := Lib.hid (freqTotal_any hdu.f)
          have HRT := Lib.hid (rTotal_any hdu.m hdu.f.tree.1.2.1 (Int.le_trans hdu.f.tree.1.2.2 (by decide)) h60)
          obtain ⟨tot, htot⟩ : ∃ t, t = c.sum := ⟨_, rfl⟩
          rw [← htot] at HTT HRT
          clear hb4 hdu htot hcell
          go_wp2_with fail
          refine HTT.out.mono ?_
          rintro e w' ⟨rfl, hw⟩
          obtain rfl : _ = w' := hw.symm
          go_wp2_with fail
          refine HRT.out.mono ?_
          rintro e w5 ⟨rfl, hb5⟩
          have HDU5 := Lib.hid (HDU4.out.grow hb5)
          clear hb5
          go_wp2
          go_roundw
          case rel => exact ⟨k + 1, c, _, by omega, by go_num, HDU5.out⟩
          case measure => simp [intOf]; omega
    · obtain rfl : k = L := by omega
      have hn1 : 1 ≤ n := by have := HM.out; unfold MayF at this; omega
      obtain ⟨g, rfl, hgB, hgl⟩ : ∃ g, A' = some ⟨g, 0, none⟩ ∧ B ≤ g ∧ g < wr.heap.size := by
        rcases HFORM.out with h | h
        · omega
        · exact h
      clear hgB hgl
      go_wp2
      go_loopw [15] (fun ii wr => ∃ i : Nat, i ≤ n ∧ ii = .int .i64 (i : Int) ∧ Duo w wr B F T S M n (.slice (some ⟨g, 0, none⟩) n m') c st mo) (fun ii _ => n - (intOf ii).toNat)
      case atStart => exact ⟨0, Nat.zero_le _, rfl, HDU.out⟩
      case round =>
        clear HDU
        obtain ⟨i, hi, rfl, hdu⟩ := hrel
        have HDU := Lib.hid hdu
        clear hdu
        have hnn := HDU.out.f.tree.1.2.1
        have hbig := Int.le_trans HDU.out.f.tree.1.2.2 (show (65536 : Int) ≤ 1000000000 by decide)
        by_cases hlt : i < n
        · have hic : i < c.length := by rw [HDU.out.ones.1]; exact hlt
          have C1 := Lib.hid (freqOf_at i HDU.out.f hic)
          have C2 := Lib.hid (fun (W : World) (h : Duo w W B F T S M n (.slice (some ⟨g, 0, none⟩) n m') c st mo) => rBelow_any (w := W) (m := m') (i : Int) (Rd.of_own h.m.own) h.m.len hnn hbig (by omega) i (by omega))
          have hcells := Lib.hid (fun (W : World) (h : Duo w W B F T S M n (.slice (some ⟨g, 0, none⟩) n m') c st mo) => (show W.cell? ⟨g, i, none⟩ = some (.int .i64 (c[i]'hic)) by
            rw [h.m.own.cellAt i (by omega), zvs_get, List.getElem?_eq_getElem hic]; rfl))
          obtain ⟨x, hx⟩ : ∃ x, x = c[i]'hic := ⟨_, rfl⟩
          rw [← hx] at C1 hcells
          obtain ⟨fp, hfp⟩ : ∃ fp, fp = fPre c i := ⟨_, rfl⟩
          rw [← hfp] at C1 C2
          have hii : (i : Int) < (n : Int) := by omega
          clear hic hx hfp hnn hbig
          go_wp2_with fail
          refine C1.out.mono ?_
          rintro e w3 ⟨rfl, hb3⟩
          have HD3 := Lib.hid (HDU.out.grow hb3)
          have c0 := HD3.out.m.mb.cell 0
          simp only [List.getElem?_cons_zero] at c0
          have hcx := hcells.out w3 HD3.out
          clear hb3
          go_wp2_with fail
          refine (C2.out _ HD3.out).mono ?_
          rintro e w' ⟨rfl, hw⟩
          obtain rfl : _ = w' := hw.symm
          go_wp2
          go_roundw
          case rel => exact ⟨i + 1, by omega, by go_num, HD3.out⟩
          case measure => simp [intOf]; omega
        · obtain rfl : i = n := by omega
          have CF := Lib.hid (freqFind_any v HDU.out.f)
          have CG := Lib.hid (rFind_any (m := m') v (Rd.of_own HDU.out.m.own) HDU.out.m.len hnn hbig (by omega))
          have CO := Lib.hid (freqOf_out (i : Int) HDU.out.f (by rw [HDU.out.ones.1]; omega))
          have c0 := HDU.out.m.mb.cell 0
          simp only [List.getElem?_cons_zero] at c0
          clear hnn hbig
          cases hf : fFind c v with
          | none =>
            simp only [hf, findV] at CF CG
            clear hf
            go_wp2_with fail
            refine CF.out.mono ?_
            rintro e w' ⟨rfl, hw⟩
            obtain rfl : _ = w' := hw.symm
            go_wp2_with fail
            refine CG.out.mono ?_
            rintro e w' ⟨rfl, hw⟩
            obtain rfl : _ = w' := hw.symm
            go_wp2_with fail
            refine CO.out.mono ?_
            rintro e w3 ⟨rfl, hb3⟩
            have HB3 := Lib.hid (HDU.out.below.trans (hb3.mono HDU.out.below.size))
            clear hb3
            go_wp2_with fail
            refine (CK.out _).mono ?_
            rintro e w4 hy
            obtain ⟨rfl, hb4⟩ := yes_trans HB3.out hy
            go_wp2
            go_ret
            exact ⟨rfl, hb4⟩
          | some r =>
            simp only [hf, findV] at CF CG
            clear hf
            go_wp2_with fail
            refine CF.out.mono ?_
            rintro e w' ⟨rfl, hw⟩
            obtain rfl : _ = w' := hw.symm
            go_wp2_with fail
            refine CG.out.mono ?_
            rintro e w' ⟨rfl, hw⟩
            obtain rfl : _ = w' := hw.symm
            go_wp2_with fail
            refine CO.out.mono ?_
            rintro e w3 ⟨rfl, hb3⟩
            have HB3 := Lib.hid (HDU.out.below.trans (hb3.mono HDU.out.below.size))
            clear hb3
            go_wp2_with fail
            refine (CK.out _).mono ?_
            rintro e w4 hy
            obtain ⟨rfl, hb4⟩ := yes_trans HB3.out hy
            go_wp2
            go_ret
            exact ⟨rfl, hb4⟩
end Go.Proofs.Ytfjfjadlpnlmjaa
