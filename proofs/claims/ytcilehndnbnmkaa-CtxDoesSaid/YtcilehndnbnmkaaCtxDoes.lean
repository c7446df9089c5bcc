/- Layer 23: the law CtxDoes. -/
import Derived.Test.YtcilehndnbnmkaaCtxKnown
import Derived.Test.YtcilehndnbnmkaaCtxRef
import Derived.Test.YtcilehndnbnmkaaCtxArg
namespace Go.Proofs.Ytcilehndnbnmkaa
open Go.RowKit Go.Sort

/-- A bank, and a plain bank, of the same chances beside one another. -/
structure CDuo (w wr : World) (B F C M bits n : Nat) (v : Value) (R : List Nat) : Prop where
  f : IsBank wr F C bits n R
  m : RBank wr B M bits n v R
  below : Below w.heap.size w wr
  lt : B ≤ wr.heap.size
  lo : w.heap.size ≤ C ∧ w.heap.size ≤ B
  ts : F < B ∧ C < B
section
variable {w wr w3 w4 : World} {B F C M bits n k : Nat} {bit : Int} {v : Value} {R : List Nat}
theorem CDuo.same {w' : World} (h : CDuo w wr B F C M bits n v R) (e : w'.heap = wr.heap) (hb : Below w.heap.size w w') : CDuo w w' B F C M bits n v R :=
  ⟨h.f.same e, h.m.same e, hb, by rw [e]; exact h.lt, h.lo, h.ts⟩
theorem CDuo.drewN {j : Nat} (h : CDuo w wr B F C M bits n v R) : CDuo w (wr.drewN j) B F C M bits n v R := h.same rfl (below_drewn h.below)
theorem CDuo.seen1 (h : CDuo w wr B F C M bits n v R) (hf : IsBank w3 F C bits n (seenC R k bit)) (hu : TurnsB C C wr w3) : IsBank w3 F C bits n (seenC R k bit) ∧ RBank w3 B M bits n v R ∧ Below w.heap.size w w3 ∧ B ≤ w3.heap.size :=
  ⟨hf, h.m.turns hu h.ts.2 h.ts.2, h.below.trans (hu.below h.lo.1 h.lo.1 h.below.size), Nat.le_trans h.lt hu.size⟩
theorem CDuo.seen2 (h : CDuo w wr B F C M bits n v R) (h3 : IsBank w3 F C bits n (seenC R k bit) ∧ RBank w3 B M bits n v R ∧ Below w.heap.size w w3 ∧ B ≤ w3.heap.size) (hm : RBank w4 B M bits n v (seenC R k bit)) (hb : Below B w3 w4) : CDuo w w4 B F C M bits n v (seenC R k bit) :=
  ⟨⟨h3.1.fb.below hb h.ts.1, h3.1.cb.below hb h.ts.2, h3.1.row, h3.1.pow, h3.1.lo⟩, hm, h3.2.2.1.trans (hb.mono h.lo.2), Nat.le_trans h3.2.2.2 hb.size, h.lo, h.ts⟩
end

set_option maxHeartbeats 4000000 in
set_option maxRecDepth 100000 in
theorem ctxDoes_some (bits n key : Nat) (hbits : 1 ≤ bits ∧ bits ≤ 10) (hn : n = 2 ^ bits) (hk32 : key < 4294967296) (A : Option Addr) (L m : Nat) (ss : List KB) (w : World) (hr : RdKB w w.heap.size A ss) (hok : ∀ s ∈ ss, s.key < 4294967296) (hL : ss.length = L) (hL300 : L ≤ 300) :
    Calls Try.prog 3 #[.int .i64 (bits : Int), .slice A L m, .int .u32 (key : Int)] w (Yes w) := by
  have CK := Lib.hid ctxKnown_any
  have CN := Lib.hid (ctxNew_any bits n w (by omega) hn)
  have CR := Lib.hid (fun w => cNew_any bits n w (by omega) hn)
  have CP1 := Lib.hid (fun w => ctxPlace_any key bits w (by omega))
  have CP2 := Lib.hid (fun w => cPlace_any key bits w hk32 (by omega))
  have HK32 := Lib.hid hk32
  have HR := Lib.hid hr
  have HL := Lib.hid hL
  have HOK := Lib.hid hok
  obtain ⟨b1, b2⟩ := hbits
  have a1 : ¬ ((10 : Int) < (bits : Int)) := by omega
  have a2 : ¬ ((300 : Int) < (L : Int)) := by omega
  have a3 : ¬ ((bits : Int) < 1) := by omega
  have a4 : ¬ ((16 : Int) < (bits : Int)) := by omega
  clear hr hL hok hn hk32
  go_enter Try.func3, Try.ntmps3
  go_wp2_with fail
  refine CN.out.mono ?_
  rintro e w1 ⟨F, rfl, C, hf1, ⟨hF, hC⟩, hb1⟩
  have HF1 := Lib.hid hf1
  have HB1 := Lib.hid hb1
  have HFC := Lib.hid (And.intro hF hC)
  clear hf1 hb1 hF hC
  go_wp2_with fail
  refine (CR.out _).mono ?_
  rintro e w2 ⟨M, rfl, ⟨v2, hm2⟩, hb2⟩
  have hdu : CDuo w w2 w1.heap.size F C M bits n v2 (List.replicate n 32768) :=
    ⟨HF1.out.grow hb2, hm2, HB1.out.trans (hb2.mono HB1.out.size), hb2.size, ⟨HFC.out.2, HB1.out.size⟩, HF1.out.fb.lt, HF1.out.cb.lt⟩
  have HDU := Lib.hid hdu
  obtain ⟨B, hB⟩ : ∃ B, B = w1.heap.size := ⟨_, rfl⟩
  rw [← hB] at HDU
  clear hdu hm2 hb2 HF1 HFC HB1 hB
  go_wp2
  go_loopw [9] (fun ii wr => ∃ (k : Nat) (R : List Nat), k ≤ L ∧ ii = .int .i64 (k : Int) ∧ CDuo w wr B F C M bits n v2 R) (fun ii _ => L - (intOf ii).toNat)
  case atStart => exact ⟨0, _, Nat.zero_le _, rfl, HDU.out⟩
  case round =>
    clear HDU
    obtain ⟨k, R, hk, rfl, hdu⟩ := hrel
    have HDU := Lib.hid hdu
    clear hdu
    by_cases hlt : k < L
    · have hkl : k < ss.length := by have := HL.out; omega
      have hsk := HOK.out _ (List.getElem_mem hkl)
      obtain ⟨b, off, rfl, hbl, hc0, hc1⟩ := HR.out k _ (List.getElem?_eq_getElem hkl)
      obtain ⟨x, hx⟩ : ∃ x, x = ss[k].key := ⟨_, rfl⟩
      obtain ⟨y, hy⟩ : ∃ y, y = ss[k].bit := ⟨_, rfl⟩
      rw [← hx] at hc0 hsk
      rw [← hy] at hc1
      have HC := Lib.hid (fun (W : World) (h : Below w.heap.size w W) => And.intro ((h.cell (p := ⟨b, off + k * 2, none⟩) hbl).trans hc0) ((h.cell (p := ⟨b, off + k * 2 + 1, none⟩) hbl).trans hc1))
      obtain ⟨d0, d1⟩ := HC.out wr HDU.out.below
      have hki : (k : Int) < (L : Int) := by omega
      have CS1 := Lib.hid (fun (W : World) (e : W.heap = wr.heap) => ctxSeen_any x y (HDU.out.f.same e))
      have HSK := Lib.hid hsk
      clear hc0 hc1 hbl hx hy hkl hsk
      go_wp2
      refine wp_region_still_tail 11 (by kernel_rfl) (by kernel_rfl) ?_
      simp only [List.take_succ_cons, List.take_zero, List.drop_succ_cons, List.drop_zero]
      repeat still_step
      refine wpStill_nil ?_
      change wpList _ _ _ _ _ wr.drew
      go_wp2_with fail
      refine (CS1.out wr.drew rfl).mono ?_
      rintro e w3 ⟨⟨u, rfl⟩, hf3, hu3⟩
      have h3 := HDU.out.seen1 hf3 ((TurnsB.refl C C wr).drew.trans hu3)
      have H3 := Lib.hid h3
      have CS2 := Lib.hid (fun (W : World) (e : W.heap = w3.heap) => cSeen_any x y (h3.2.1.same e) HSK.out)
      clear hf3 hu3 d0 d1
      obtain ⟨d0, d1⟩ := HC.out w3 h3.2.2.1
      clear h3
      go_wp2
      refine wp_region_still_tail 11 (by kernel_rfl) (by kernel_rfl) ?_
      simp only [List.take_succ_cons, List.take_zero, List.drop_succ_cons, List.drop_zero]
      repeat still_step
      refine wpStill_nil ?_
      change wpList _ _ _ _ _ w3.drew
      go_wp2_with fail
      refine (CS2.out w3.drew rfl).mono ?_
      rintro e w4 ⟨⟨u', rfl⟩, hm4, hb4⟩
      have hdu := HDU.out.seen2 (bit := y) (k := placeC x bits) H3.out hm4 (((Below.refl B w3).drew).trans hb4)
      have HDU4 := Lib.hid hdu
      have CQ1 := Lib.hid (fun (W : World) (e : W.heap = w4.heap) => ctxP_any x (hdu.f.same e))
      have CQ2 := Lib.hid (fun (W : World) (e : W.heap = w4.heap) => cP_any x (hdu.m.same e) HSK.out)
      obtain ⟨pv, hpv⟩ : ∃ pv, pv = (seenC R (placeC x bits) y).getD (placeC x bits) 0 := ⟨_, rfl⟩
      rw [← hpv] at CQ1 CQ2
      clear hm4 hb4 d0 d1 hpv
      obtain ⟨d0, d1⟩ := HC.out w4 hdu.below
      clear hdu
      go_wp2
      go_quiet ((first | (go_at_call 10; exact quietD CQ1.out) | (go_at_call 14; exact quietD CQ2.out)))
      go_wp2
      go_roundw
      case rel => exact ⟨k + 1, _, by omega, by go_num, HDU4.out.drewN⟩
      case measure => simp [intOf]; omega
    · obtain rfl : k = L := by omega
      have CQ1 := Lib.hid (ctxP_any key HDU.out.f)
      have CQ2 := Lib.hid (fun (W : World) (e : W.heap = wr.heap) => cP_any key (HDU.out.m.same e) HK32.out)
      obtain ⟨pv, hpv⟩ : ∃ pv, pv = R.getD (placeC key bits) 0 := ⟨_, rfl⟩
      rw [← hpv] at CQ1 CQ2
      clear hpv
      obtain ⟨pl, hpl⟩ : ∃ pl, pl = placeC key bits := ⟨_, rfl⟩
      rw [← hpl] at CP1 CP2
      clear hpl
      go_wp2_with fail
      refine CQ1.out.mono ?_
      rintro e w5 ⟨rfl, j, hw⟩
      have CQ3 := Lib.hid (CQ2.out w5 (by rw [hw]; rfl))
      have HB5 := Lib.hid (show Below w.heap.size w w5 by rw [hw]; exact below_drewn HDU.out.below)
      clear hw
      go_wp2_with fail
      refine CQ3.out.mono ?_
      rintro e w6 ⟨rfl, j', hw⟩
      have HB6 := Lib.hid (show Below w.heap.size w w6 by rw [hw]; exact below_drewn HB5.out)
      clear hw
      go_wp2_with fail
      refine (CP1.out _).mono ?_
      rintro e w' ⟨rfl, hw⟩
      obtain rfl : _ = w' := hw.symm
      go_wp2_with fail
      refine (CP2.out _).mono ?_
      rintro e w' ⟨rfl, hw⟩
      obtain rfl : _ = w' := hw.symm
      go_wp2_with fail
      refine (CK.out _).mono ?_
      rintro e w7 hy
      obtain ⟨rfl, hb7⟩ : Yes w e w7 := ⟨hy.1, HB6.out.trans (hy.2.mono HB6.out.size)⟩
      go_wp2
      go_ret
      exact ⟨rfl, hb7⟩

set_option maxHeartbeats 1000000 in
set_option maxRecDepth 100000 in
theorem ctxDoes_law (bits : Int) (key : Nat) (hk32 : key < 4294967296) (A : Option Addr) (L m : Nat) (ss : List KB) (w : World) (hr : RdKB w w.heap.size A ss) (hok : ∀ s ∈ ss, s.key < 4294967296) (hL : ss.length = L) (hL63 : L ≤ 9223372036854775807) :
    Calls Try.prog 3 #[.int .i64 bits, .slice A L m, .int .u32 (key : Int)] w (Yes w) := by
  have CK := Lib.hid ctxKnown_any
  by_cases h10 : 10 < bits ∧ bits ≤ 16
  · obtain ⟨h1, h2⟩ := h10
    clear hr hok hL
    go_enter Try.func3, Try.ntmps3
    go_wp2_with fail
    refine (CK.out _).mono ?_
    rintro e w' ⟨rfl, hb⟩
    go_wp2
    go_ret
    exact ⟨rfl, hb⟩
  by_cases h300 : 300 < L
  · have h3 : (300 : Int) < (L : Int) := by omega
    clear hr hok hL
    by_cases h1 : 10 < bits
    · have h2 : ¬ (bits ≤ 16) := by omega
      clear h10
      go_enter Try.func3, Try.ntmps3
      go_wp2_with fail
      refine (CK.out _).mono ?_
      rintro e w' ⟨rfl, hb⟩
      go_wp2
      go_ret
      exact ⟨rfl, hb⟩
    · clear h10
      go_enter Try.func3, Try.ntmps3
      go_wp2_with fail
      refine (CK.out _).mono ?_
      rintro e w' ⟨rfl, hb⟩
      go_wp2
      go_ret
      exact ⟨rfl, hb⟩
  by_cases hbad : bits < 1 ∨ 16 < bits
  · have h3 : ¬ ((300 : Int) < (L : Int)) := by omega
    have hno : ¬ (1 ≤ bits ∧ bits ≤ 16) := by omega
    have CN := Lib.hid (fun w => ctxNew_bad bits w hno)
    have CS := Lib.hid (ctxSeen_nil (key : Int) 1)
    have CP := Lib.hid (ctxP_nil (key : Int))
    have CL := Lib.hid (fun w => ctxPlace_bad (key : Int) bits w hno)
    clear hr hok hL hno h10
    have hcase : (bits < 1 ∧ ¬ (10 < bits)) ∨ (¬ (bits < 1) ∧ 16 < bits ∧ 10 < bits ∧ ¬ (bits ≤ 16)) := by omega
    clear hbad
    rcases hcase with ⟨h1, h2⟩ | ⟨h1, h2, h4, h5⟩
    · go_enter Try.func3, Try.ntmps3
      go_wp2_with fail
      refine (CN.out _).mono ?_
      rintro e w' ⟨rfl, hw⟩
      obtain rfl : _ = w' := hw.symm
      go_wp2_with fail
      refine (CS.out _).mono ?_
      rintro e w' ⟨⟨u, rfl⟩, hw⟩
      obtain rfl : _ = w' := hw.symm
      go_wp2_with fail
      refine (CP.out _).mono ?_
      rintro e w' ⟨rfl, hw⟩
      obtain rfl : _ = w' := hw.symm
      go_wp2_with fail
      refine (CL.out _).mono ?_
      rintro e w' ⟨rfl, hw⟩
      obtain rfl : _ = w' := hw.symm
      go_wp2_with fail
      refine (CK.out _).mono ?_
      rintro e w' ⟨rfl, hb⟩
      go_wp2
      go_ret
      exact ⟨rfl, hb⟩
    · go_enter Try.func3, Try.ntmps3
      go_wp2_with fail
      refine (CN.out _).mono ?_
      rintro e w' ⟨rfl, hw⟩
      obtain rfl : _ = w' := hw.symm
      go_wp2_with fail
      refine (CS.out _).mono ?_
      rintro e w' ⟨⟨u, rfl⟩, hw⟩
      obtain rfl : _ = w' := hw.symm
      go_wp2_with fail
      refine (CP.out _).mono ?_
      rintro e w' ⟨rfl, hw⟩
      obtain rfl : _ = w' := hw.symm
      go_wp2_with fail
      refine (CL.out _).mono ?_
      rintro e w' ⟨rfl, hw⟩
      obtain rfl : _ = w' := hw.symm
      go_wp2_with fail
      refine (CK.out _).mono ?_
      rintro e w' ⟨rfl, hb⟩
      go_wp2
      go_ret
      exact ⟨rfl, hb⟩
  obtain ⟨b, rfl⟩ := Int.eq_ofNat_of_zero_le (show 0 ≤ bits by omega)
  exact ctxDoes_some b _ key (by omega) rfl hk32 A L m ss w hr hok hL (by omega)
end Go.Proofs.Ytcilehndnbnmkaa
