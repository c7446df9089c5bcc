/- Layer 13: the law FreqKeeps. -/
import Derived.Test.YtfjfjadlpnlmjaaFreqNil
namespace Go.Proofs.Ytfjfjadlpnlmjaa
open Go.RowKit Go.Sort

theorem IsFreq.other {w w' : World} {F T S T' S' : Nat} {c : List Int} {st mo : Int} (h : IsFreq w F T S c st mo) (hu : TurnsB T' S' w w') (h1 : F ≠ T' ∧ F ≠ S') (h2 : T ≠ T' ∧ T ≠ S') (h3 : S ≠ T' ∧ S ≠ S') : IsFreq w' F T S c st mo :=
  ⟨hu.blk h.fb h1.1 h1.2, h.tree.1, hu.blk h.tree.2.tb h2.1 h2.2, hu.blk h.tree.2.sb h3.1 h3.2⟩
/-- Two of them, of the same counts, apart from one another. -/
structure Twin (w wr : World) (B F T S F2 T2 S2 : Nat) (c : List Int) (N : Nat) (st mo : Int) : Prop where
  f : IsFreq wr F T S c st mo
  g : IsFreq wr F2 T2 S2 c st mo
  ones : Ones N c
  sum : c.sum ≤ mo
  below : Below w.heap.size w wr
  lo : w.heap.size ≤ T ∧ w.heap.size ≤ S ∧ w.heap.size ≤ B
  ts : (F < B ∧ T < B ∧ S < B) ∧ (B ≤ F2 ∧ B ≤ T2 ∧ B ≤ S2)
theorem Twin.grow {w wr w' : World} {B F T S F2 T2 S2 N : Nat} {c : List Int} {st mo : Int} (h : Twin w wr B F T S F2 T2 S2 c N st mo) (hb : Below wr.heap.size wr w') : Twin w w' B F T S F2 T2 S2 c N st mo :=
  ⟨h.f.grow hb, h.g.grow hb, h.ones, h.sum, h.below.trans (hb.mono h.below.size), h.lo, h.ts⟩
theorem Twin.seen {w wr w3 w4 : World} {B F T S F2 T2 S2 N : Nat} {c r r' : List Int} {st mo : Int} {c1 : List Int} (h : Twin w wr B F T S F2 T2 S2 c N st mo) (ho : Ones N c1)
    (hr : Shrunk mo c1 r) (hf : IsFreq w3 F T S r st mo) (hu : TurnsB T S wr w3) (hr' : Shrunk mo c1 r') (hg : IsFreq w4 F2 T2 S2 r' st mo) (hu' : TurnsB T2 S2 w3 w4) : Twin w w4 B F T S F2 T2 S2 r N st mo := by
  have e := hr.one hr'
  subst e
  have ht := h.ts
  have hl := h.lo
  have hb3 := h.below.trans (hu.below hl.1 hl.2.1 h.below.size)
  exact ⟨hf.other hu' ⟨by omega, by omega⟩ ⟨by omega, by omega⟩ ⟨by omega, by omega⟩, hg, (hr.ones ho).1, (hr.ones ho).2, hb3.trans (hu'.below (by omega) (by omega) hb3.size), hl, ht⟩

set_option maxHeartbeats 8000000 in
set_option maxRecDepth 100000 in
theorem freqKeeps_law (n0 s0 m0 : Nat) (A : Option Addr) (L m : Nat) (l : List UInt8) (w : World) (hn : n0 < 256) (hs : s0 < 256) (hm : m0 < 65536) (hr : Rd w w.heap.size A (bvs l)) (hl : l.length = L) (hL63 : L ≤ 9223372036854775807) :
    Calls Try.prog 7 #[.int .u8 (n0 : Int), .int .u8 (s0 : Int), .int .u16 (m0 : Int), .slice A L m] w (Yes w) := by
  have CK := Lib.hid freqKnown_any
  obtain ⟨N, hN⟩ : ∃ N, N = n0 % 100 + 1 := ⟨_, rfl⟩
  obtain ⟨st, hst⟩ : ∃ st, st = s0 + 1 := ⟨_, rfl⟩
  obtain ⟨mo, hmo⟩ : ∃ mo, mo = N + m0 % 1000 := ⟨_, rfl⟩
  have e1 : (n0 : Int) % 100 + 1 = (N : Int) := by omega
  have e2 : (s0 : Int) + 1 = (st : Int) := by omega
  have e3 : (N : Int) + (m0 : Int) % 1000 = (mo : Int) := by omega
  have hMay : MayF (N : Int) (st : Int) (mo : Int) := by unfold MayF; omega
  have E1 := Lib.hid e1
  have E2 := Lib.hid e2
  have E3 := Lib.hid e3
  have CN := Lib.hid (fun w => freqNew_any N (st : Int) (mo : Int) w hMay)
  have HB := Lib.hid (show 1 ≤ N ∧ N ≤ 100 ∧ 1 ≤ st ∧ st ≤ 256 ∧ N ≤ mo ∧ mo ≤ 1100 by omega)
  have HR := Lib.hid hr
  have HL := Lib.hid hl
  clear hMay hr hl e1 e2 e3 hN hst hmo
  go_enter Try.func7, Try.ntmps7
  go_wp2_with fail
  rw [E1.out, E2.out, E3.out]
  refine (CN.out _).mono ?_
  rintro e w1 ⟨F, rfl, T, S, hf1, ⟨hF, hT, hS⟩, hb1⟩
  have HF1 := Lib.hid hf1
  have HB1 := Lib.hid hb1
  have HTS := Lib.hid (And.intro hF (And.intro hT hS))
  clear hf1 hb1 hF hT hS
  go_wp2_with fail
  refine (CN.out _).mono ?_
  rintro e w2 ⟨F2, rfl, T2, S2, hf2, ⟨hF2, hT2, hS2⟩, hb2⟩
  have htw : Twin w w2 w1.heap.size F T S F2 T2 S2 (List.replicate N 1) N st mo :=
    ⟨HF1.out.grow hb2, hf2, ones_rep N, by have := HB.out; simp; omega, HB1.out.trans (hb2.mono HB1.out.size), ⟨HTS.out.2.1, HTS.out.2.2, HB1.out.size⟩, ⟨HF1.out.fb.lt, HF1.out.tree.2.tb.lt, HF1.out.tree.2.sb.lt⟩, hF2, hT2, hS2⟩
  have HTW := Lib.hid htw
  clear htw hf2 hF2 hT2 hS2 hb2 HF1 HTS
  by_cases h200 : 200 < L
  · have h2 : (200 : Int) < (L : Int) := by omega
    go_wp2_with fail
    refine (CK.out _).mono ?_
    rintro e w3 hy
    obtain ⟨rfl, hb3⟩ := yes_trans HTW.out.below hy
    go_wp2
    go_ret
    exact ⟨rfl, hb3⟩
  have h2 : ¬ ((200 : Int) < (L : Int)) := by omega
  go_wp2
  go_loopw [14] (fun ii wr => ∃ (k : Nat) (c : List Int), k ≤ L ∧ ii = .int .i64 (k : Int) ∧ Twin w wr w1.heap.size F T S F2 T2 S2 c N st mo) (fun ii _ => L - (intOf ii).toNat)
  case atStart => exact ⟨0, _, Nat.zero_le _, rfl, HTW.out⟩
  case round =>
    clear HTW
    obtain ⟨k, c, hk, rfl, htw⟩ := hrel
    have HTW := Lib.hid htw
    clear htw
    by_cases hlt : k < L
    · have hkl : k < l.length := by have := HL.out; omega
      obtain ⟨b, off, rfl, hbl, hc0⟩ := HR.out k _ (bvs_get l k hkl)
      have hcell := (HTW.out.below.cell (p := ⟨b, off + k, none⟩) hbl).trans hc0
      obtain ⟨x, hx⟩ : ∃ x, x = l[k].toNat := ⟨_, rfl⟩
      rw [← hx] at hcell
      obtain ⟨j, hj⟩ : ∃ j, j = x % N := ⟨_, rfl⟩
      have hjN : j < N := by rw [hj]; exact Nat.mod_lt _ (by have := HB.out; omega)
      have hji : (x : Int) % (N : Int) = (j : Int) := by rw [hj]; simp
      have hjc : j < c.length := by rw [HTW.out.ones.1]; exact hjN
      have hb0 := HB.out
      have ho : Ones c.length c := by rw [HTW.out.ones.1]; exact HTW.out.ones
      have CS1 := Lib.hid (freqSeen_any j HTW.out.f ho hjc (by omega) (by have := HTW.out.sum; omega) (by rw [HTW.out.ones.1]; omega))
      have CS2 := Lib.hid (fun (W : World) (h : IsFreq W F2 T2 S2 c st mo) => freqSeen_any (w := W) j h ho hjc (by omega) (by have := HTW.out.sum; omega) (by rw [HTW.out.ones.1]; omega))
      have HO1 := Lib.hid (HTW.out.ones.set hjc (d := (st : Int)) (by omega))
      obtain ⟨c1, hc1⟩ : ∃ c1, c1 = c.set j (c[j]'hjc + st) := ⟨_, rfl⟩
      rw [← hc1] at CS1 CS2 HO1
      have HJI := Lib.hid hji
      have hki : (k : Int) < (L : Int) := by omega
      have hNi : ¬ ((N : Int) = 0) := by omega
      have hx0 : x < 256 := by rw [hx]; exact l[k].toNat_lt
      clear hc1 ho hjc hj hji hc0 hbl hb0 hx
      go_wp2_with fail
      rw [HJI.out]
      refine CS1.out.mono ?_
      rintro e w3 ⟨rfl, ⟨r, hr3, hf3⟩, hu3⟩
      have ht := HTW.out.ts
      have HG3 := Lib.hid (HTW.out.g.other hu3 ⟨by omega, by omega⟩ ⟨by omega, by omega⟩ ⟨by omega, by omega⟩)
      have H3 := Lib.hid (And.intro hr3 (And.intro hf3 hu3))
      clear hr3 hf3 hu3 ht
      go_wp2_with fail
      refine (CS2.out _ HG3.out).mono ?_
      rintro e w4 ⟨rfl, ⟨r', hr4, hg4⟩, hu4⟩
      have htw := HTW.out.seen HO1.out H3.out.1 H3.out.2.1 H3.out.2.2 hr4 hg4 hu4
      have HTW4 := Lib.hid htw
      have HTT := Lib.hid (freqTotal_any htw.f)
      have hsum := htw.sum
      obtain ⟨tot, htot⟩ : ∃ t, t = r.sum := ⟨_, rfl⟩
      rw [← htot] at HTT hsum
      clear hr4 hg4 hu4 htw htot
      go_wp2_with fail
      refine HTT.out.mono ?_
      rintro e w' ⟨rfl, hw⟩
      obtain rfl : _ = w' := hw.symm
      go_wp2
      go_roundw
      case rel => exact ⟨k + 1, r, by omega, by go_num, HTW4.out⟩
      case measure => simp [intOf]; omega
    · obtain rfl : k = L := by omega
      have hNi : (N : Int) ≤ 100 := by have := HB.out; omega
      go_wp2
      go_loopw [16] (fun ii wr => ∃ i : Nat, i ≤ N ∧ ii = .int .i64 (i : Int) ∧ Twin w wr w1.heap.size F T S F2 T2 S2 c N st mo) (fun ii _ => N - (intOf ii).toNat)
      case atStart => exact ⟨0, Nat.zero_le _, rfl, HTW.out⟩
      case round =>
        clear HTW
        obtain ⟨i, hi, rfl, htw⟩ := hrel
        have HTW := Lib.hid htw
        clear htw
        by_cases hlt : i < N
        · have hic : i < c.length := by rw [HTW.out.ones.1]; exact hlt
          have C1 := Lib.hid (freqOf_at i HTW.out.f hic)
          have C2 := Lib.hid (fun (W : World) (h : IsFreq W F2 T2 S2 c st mo) => freqOf_at (w := W) i h hic)
          have hx1 := HTW.out.ones.2 _ (List.getElem_mem hic)
          have hps := fPre_succ c i hic
          have hff : fFind c (fPre c i) = some i := fFind_some HTW.out.f.tree.1.2.1 (fPre_nn HTW.out.f.tree.1.2.1 i) hic (Int.le_refl _) (by omega)
          obtain ⟨x, hx⟩ : ∃ x, x = c[i]'hic := ⟨_, rfl⟩
          rw [← hx] at C1 C2 hx1
          obtain ⟨fp, hfp⟩ : ∃ fp, fp = fPre c i := ⟨_, rfl⟩
          rw [← hfp] at C1 C2 hff
          have C3 := Lib.hid (fun (W : World) (h : IsFreq W F T S c st mo) => freqFind_any (w := W) fp h)
          rw [hff] at C3
          simp only [findV] at C3
          have hii : (i : Int) < (N : Int) := by omega
          clear hic hps hff hx hfp
          go_wp2_with fail
          refine C1.out.mono ?_
          rintro e w3 ⟨rfl, hb3⟩
          have HT3 := Lib.hid (HTW.out.grow hb3)
          clear hb3
          go_wp2_with fail
          refine (C2.out _ HT3.out.g).mono ?_
          rintro e w4 ⟨rfl, hb4⟩
          have HT4 := Lib.hid (HT3.out.grow hb4)
          clear hb4
          go_wp2_with fail
          refine (C3.out _ HT4.out.f).mono ?_
          rintro e w' ⟨rfl, hw⟩
          obtain rfl : _ = w' := hw.symm
          go_wp2
          go_roundw
          case rel => exact ⟨i + 1, by omega, by go_num, HT4.out⟩
          case measure => simp [intOf]; omega
        · obtain rfl : i = N := by omega
          go_wp2_with fail
          refine (CK.out _).mono ?_
          rintro e w3 hy
          obtain ⟨rfl, hb3⟩ := yes_trans HTW.out.below hy
          go_wp2
          go_ret
          exact ⟨rfl, hb3⟩
end Go.Proofs.Ytfjfjadlpnlmjaa
