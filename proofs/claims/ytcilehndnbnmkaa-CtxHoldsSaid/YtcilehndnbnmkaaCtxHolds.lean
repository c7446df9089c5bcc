/- Layer 23: the law CtxHolds. -/
import Derived.Test.YtcilehndnbnmkaaCtxKnown
import Derived.Test.YtcilehndnbnmkaaCtxRef
import Derived.Test.YtcilehndnbnmkaaCtxArg
namespace Go.Proofs.Ytcilehndnbnmkaa
open Go.RowKit Go.Sort

/-- Two banks of 64 cells beside one another, that hold the same at place p. -/
structure CTwin (w wr : World) (F C F2 C2 p : Nat) (R R2 : List Nat) : Prop where
  f : IsBank wr F C 6 64 R
  g : IsBank wr F2 C2 6 64 R2
  same : R.getD p 0 = R2.getD p 0
  below : Below w.heap.size w wr
  lo : w.heap.size ≤ C ∧ w.heap.size ≤ C2
  ts : F2 ≠ C ∧ C2 ≠ C ∧ F ≠ C2
theorem IsBank.other {w w' : World} {F C C' bits n : Nat} {R : List Nat} (h : IsBank w F C bits n R) (hu : TurnsB C' C' w w') (h1 : F ≠ C') (h2 : C ≠ C') : IsBank w' F C bits n R :=
  ⟨hu.blk h.fb h1 h1, hu.blk h.cb h2 h2, h.row, h.pow, h.lo⟩
section
variable {w wr w3 w4 : World} {F C F2 C2 p k : Nat} {bit : Int} {R R2 : List Nat}
theorem CTwin.heap {w' : World} (h : CTwin w wr F C F2 C2 p R R2) (e : w'.heap = wr.heap) (hb : Below w.heap.size w w') : CTwin w w' F C F2 C2 p R R2 := ⟨h.f.same e, h.g.same e, h.same, hb, h.lo, h.ts⟩
theorem CTwin.drewN {j : Nat} (h : CTwin w wr F C F2 C2 p R R2) : CTwin w (wr.drewN j) F C F2 C2 p R R2 := h.heap rfl (below_drewn h.below)
/-- A key of another cell is seen by one alone. -/
theorem CTwin.one (h : CTwin w wr F C F2 C2 p R R2) (hk : k ≠ p) (hf : IsBank w3 F C 6 64 (seenC R k bit)) (hu : TurnsB C C wr w3) : CTwin w w3 F C F2 C2 p (seenC R k bit) R2 :=
  ⟨hf, h.g.other hu h.ts.1 h.ts.2.1, by rw [seenC_other R hk]; exact h.same, h.below.trans (hu.below h.lo.1 h.lo.1 h.below.size), h.lo, h.ts⟩
/-- What is known behind the first of two. -/
def CHalf (w w3 : World) (F C F2 C2 : Nat) (R R2 : List Nat) : Prop := IsBank w3 F C 6 64 R ∧ IsBank w3 F2 C2 6 64 R2 ∧ Below w.heap.size w w3
theorem CTwin.half (h : CTwin w wr F C F2 C2 p R R2) (hf : IsBank w3 F C 6 64 (seenC R k bit)) (hu : TurnsB C C wr w3) : CHalf w w3 F C F2 C2 (seenC R k bit) R2 :=
  ⟨hf, h.g.other hu h.ts.1 h.ts.2.1, h.below.trans (hu.below h.lo.1 h.lo.1 h.below.size)⟩
theorem CTwin.two (h : CTwin w wr F C F2 C2 p R R2) (hp : p < 64) (h3 : CHalf w w3 F C F2 C2 (seenC R p bit) R2) (hg : IsBank w4 F2 C2 6 64 (seenC R2 p bit)) (hu : TurnsB C2 C2 w3 w4) : CTwin w w4 F C F2 C2 p (seenC R p bit) (seenC R2 p bit) :=
  ⟨h3.1.other hu h.ts.2.2 (fun e => h.ts.2.1 e.symm), hg, by rw [seenC_same h.f.row hp, seenC_same h.g.row hp, h.same], h3.2.2.trans (hu.below h.lo.2 h.lo.2 h3.2.2.size), h.lo, h.ts⟩
end

set_option maxHeartbeats 4000000 in
set_option maxRecDepth 100000 in
theorem ctxHolds_law (key : Nat) (hk32 : key < 4294967296) (A : Option Addr) (L m : Nat) (ss : List KB) (w : World) (hr : RdKB w w.heap.size A ss) (hok : ∀ s ∈ ss, s.key < 4294967296) (hL : ss.length = L) (hL63 : L ≤ 9223372036854775807) :
    Calls Try.prog 4 #[.slice A L m, .int .u32 (key : Int)] w (Yes w) := by
  have CK := Lib.hid ctxKnown_any
  by_cases h500 : 500 < L
  · have h2 : (500 : Int) < (L : Int) := by omega
    clear hr hok hL
    go_enter Try.func4, Try.ntmps4
    go_wp2_with fail
    refine (CK.out _).mono ?_
    rintro e w' ⟨rfl, hb⟩
    go_wp2
    go_ret
    exact ⟨rfl, hb⟩
  have CN := Lib.hid (fun w => ctxNew_any 6 64 w (by decide) (by decide))
  have CP2 := Lib.hid (fun w => cPlace_any key 6 w hk32 (by decide))
  have HP := Lib.hid (placeC_lt key (show 6 ≤ 32 by decide))
  obtain ⟨p, hp⟩ : ∃ p, p = placeC key 6 := ⟨_, rfl⟩
  rw [← hp] at CP2 HP
  have HPE := Lib.hid hp
  have HR := Lib.hid hr
  have HL := Lib.hid hL
  have HOK := Lib.hid hok
  have a2 : ¬ ((500 : Int) < (L : Int)) := by omega
  clear hr hL hok hk32 hp
  go_enter Try.func4, Try.ntmps4
  go_wp2_with fail
  refine (CN.out _).mono ?_
  rintro e w1 ⟨F, rfl, C, hf1, ⟨hF, hC⟩, hb1⟩
  have HF1 := Lib.hid hf1
  have HB1 := Lib.hid hb1
  have HFC := Lib.hid (And.intro hF hC)
  clear hf1 hb1 hF hC
  go_wp2_with fail
  refine (CN.out _).mono ?_
  rintro e w2 ⟨F2, rfl, C2, hf2, ⟨hF2, hC2⟩, hb2⟩
  have htw : CTwin w w2 F C F2 C2 p (List.replicate 64 32768) (List.replicate 64 32768) :=
    ⟨HF1.out.grow hb2, hf2, rfl, HB1.out.trans (hb2.mono HB1.out.size), ⟨HFC.out.2, Nat.le_trans HB1.out.size hC2⟩, by have := HF1.out.cb.lt; have := HF1.out.fb.lt; omega⟩
  have HTW := Lib.hid htw
  clear htw hf2 hF2 hC2 hb2 HF1 HFC HB1
  go_wp2
  go_loopw [7] (fun ii wr => ∃ (k : Nat) (R R2 : List Nat), k ≤ L ∧ ii = .int .i64 (k : Int) ∧ CTwin w wr F C F2 C2 p R R2) (fun ii _ => L - (intOf ii).toNat)
  case atStart => exact ⟨0, _, _, Nat.zero_le _, rfl, HTW.out⟩
  case round =>
    clear HTW
    obtain ⟨k, R, R2, hk, rfl, htw⟩ := hrel
    have HTW := Lib.hid htw
    clear htw
    by_cases hlt : k < L
    · have hkl : k < ss.length := by have := HL.out; omega
      have hsk := HOK.out _ (List.getElem_mem hkl)
      obtain ⟨b, off, rfl, hbl, hc0, hc1⟩ := HR.out k _ (List.getElem?_eq_getElem hkl)
      obtain ⟨x, hx⟩ : ∃ x, x = ss[k].key := ⟨_, rfl⟩
      obtain ⟨y, hy⟩ : ∃ y, y = ss[k].bit := ⟨_, rfl⟩
      rw [← hx] at hc0 hsk
      rw [← hy] at hc1
      have HC := Lib.hid (fun (W : World) (h : Below w.heap.size w W) => And.intro ((h.cell (p := ⟨b, off + k * 2, none⟩) hbl).trans hc0) ((h.cell (p := ⟨b, off + k * 2 + 1, none⟩) hbl).trans hc1))
      obtain ⟨d0, d1⟩ := HC.out wr HTW.out.below
      have hki : (k : Int) < (L : Int) := by omega
      have CS1 := Lib.hid (fun (W : World) (e : W.heap = wr.heap) => ctxSeen_any x y (HTW.out.f.same e))
      have CPX := Lib.hid (fun w => cPlace_any x 6 w hsk (by decide))
      obtain ⟨q, hq⟩ : ∃ q, q = placeC x 6 := ⟨_, rfl⟩
      have hq64 := placeC_lt x (show 6 ≤ 32 by decide)
      rw [← hq] at CPX CS1 hq64
      have HQ64 := Lib.hid hq64
      have HQ := Lib.hid hq
      clear hc0 hc1 hbl hx hy hkl hsk hq hq64
      go_wp2
      refine wp_region_still_tail 11 (by kernel_rfl) (by kernel_rfl) ?_
      simp only [List.take_succ_cons, List.take_zero, List.drop_succ_cons, List.drop_zero]
      repeat still_step
      refine wpStill_nil ?_
      change wpList _ _ _ _ _ wr.drew
      go_wp2_with fail
      refine (CS1.out wr.drew rfl).mono ?_
      rintro e w3 ⟨⟨u, rfl⟩, hf3, hu3⟩
      have h3 := HTW.out.half hf3 ((TurnsB.refl C C wr).drew.trans hu3)
      have H3 := Lib.hid h3
      have HF3 := Lib.hid (And.intro hf3 ((TurnsB.refl C C wr).drew.trans hu3))
      have CS2 := Lib.hid (fun (W : World) (e : W.heap = w3.heap) => ctxSeen_any x y (h3.2.1.same e))
      rw [← HQ.out] at CS2
      clear hf3 hu3 d0 d1
      obtain ⟨d0, d1⟩ := HC.out w3 h3.2.2
      clear h3
      go_wp2_with fail
      refine (CPX.out _).mono ?_
      rintro e w' ⟨rfl, hw⟩
      obtain rfl : _ = w' := hw.symm
      go_wp2_with fail
      refine (CP2.out _).mono ?_
      rintro e w' ⟨rfl, hw⟩
      obtain rfl : _ = w' := hw.symm
      by_cases hqp : q = p
      · subst hqp
        go_wp2
        refine wp_region_still_tail 11 (by kernel_rfl) (by kernel_rfl) ?_
        simp only [List.take_succ_cons, List.take_zero, List.drop_succ_cons, List.drop_zero]
        repeat still_step
        refine wpStill_nil ?_
        change wpList _ _ _ _ _ w3.drew
        go_wp2_with fail
        refine (CS2.out w3.drew rfl).mono ?_
        rintro e w4 ⟨⟨u', rfl⟩, hm4, hu4⟩
        have htw := HTW.out.two HQ64.out H3.out hm4 ((TurnsB.refl C2 C2 w3).drew.trans hu4)
        have HTW4 := Lib.hid htw
        have cq := ctxP_any x htw.f
        rw [← HQ.out] at cq
        have hch := htw.f.row.get HQ64.out
        obtain ⟨pv, hpv⟩ : ∃ pv, pv = (seenC R q y).getD q 0 := ⟨_, rfl⟩
        rw [← hpv] at cq hch
        have CQ := Lib.hid cq
        unfold ChC at hch
        clear hm4 hu4 d0 d1 hpv cq
        obtain ⟨d0, d1⟩ := HC.out w4 htw.below
        clear htw
        go_wp2_with fail
        refine CQ.out.mono ?_
        rintro e w5 ⟨rfl, j, hw⟩
        have HTW5 := Lib.hid (show CTwin w w5 F C F2 C2 q _ _ by rw [hw]; exact HTW4.out.drewN)
        clear hw
        have g1 : ¬ ((pv : Int) < 32) := by omega
        have g2 : ¬ (65504 < (pv : Int)) := by omega
        clear hch
        go_wp2
        go_roundw
        case rel => exact ⟨k + 1, _, _, by omega, by go_num, HTW5.out⟩
        case measure => simp [intOf]; omega
      · have hqi : ((q : Int) == (p : Int)) = false := by simp; omega
        have htw := HTW.out.one hqp HF3.out.1 HF3.out.2
        have HTW4 := Lib.hid htw
        have cq := ctxP_any x htw.f
        rw [← HQ.out] at cq
        have hch := htw.f.row.get HQ64.out
        obtain ⟨pv, hpv⟩ : ∃ pv, pv = (seenC R q y).getD q 0 := ⟨_, rfl⟩
        rw [← hpv] at cq hch
        have CQ := Lib.hid cq
        unfold ChC at hch
        clear hpv cq htw
        have g1 : ¬ ((pv : Int) < 32) := by omega
        have g2 : ¬ (65504 < (pv : Int)) := by omega
        clear hch hqp
        go_wp2_with fail
        refine CQ.out.mono ?_
        rintro e w5 ⟨rfl, j, hw⟩
        have HTW5 := Lib.hid (show CTwin w w5 F C F2 C2 p _ _ by rw [hw]; exact HTW4.out.drewN)
        clear hw
        go_wp2
        go_roundw
        case rel => exact ⟨k + 1, _, _, by omega, by go_num, HTW5.out⟩
        case measure => simp [intOf]; omega
    · obtain rfl : k = L := by omega
      have cq1 := ctxP_any key HTW.out.f
      have cq2 := fun (W : World) (e : W.heap = wr.heap) => ctxP_any key (HTW.out.g.same e)
      rw [← HPE.out] at cq1 cq2
      rw [← HTW.out.same] at cq2
      have CQ1 := Lib.hid cq1
      have CQ2 := Lib.hid cq2
      clear cq1 cq2
      obtain ⟨pv, hpv⟩ : ∃ pv, pv = R.getD p 0 := ⟨_, rfl⟩
      rw [← hpv] at CQ1 CQ2
      clear hpv
      go_wp2_with fail
      refine CQ1.out.mono ?_
      rintro e w5 ⟨rfl, j, hw⟩
      have CQ3 := Lib.hid (CQ2.out w5 (by rw [hw]; rfl))
      have HB5 := Lib.hid (show Below w.heap.size w w5 by rw [hw]; exact below_drewn HTW.out.below)
      clear hw
      go_wp2_with fail
      refine CQ3.out.mono ?_
      rintro e w6 ⟨rfl, j', hw⟩
      have HB6 := Lib.hid (show Below w.heap.size w w6 by rw [hw]; exact below_drewn HB5.out)
      clear hw
      go_wp2_with fail
      refine (CK.out _).mono ?_
      rintro e w7 hy
      obtain ⟨rfl, hb7⟩ : Yes w e w7 := ⟨hy.1, HB6.out.trans (hy.2.mono HB6.out.size)⟩
      go_wp2
      go_ret
      exact ⟨rfl, hb7⟩
end Go.Proofs.Ytcilehndnbnmkaa
