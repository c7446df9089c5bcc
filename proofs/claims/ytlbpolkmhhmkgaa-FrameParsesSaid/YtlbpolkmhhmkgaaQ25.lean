/-
  Layer 32: the fixed calls. · Layer 32: the law FrameParses.
-/
import Derived.Test.YtlbpolkmhhmkgaaQ20
import Derived.Test.YtlbpolkmhhmkgaaQ23
import Derived.Test.YtlbpolkmhhmkgaaQ24
import Derived.Lib.QuietBelow
import Derived.BigQuiet
namespace Go.Proofs.Ytlbpolkmhhmkgaa
open Go.RowKit Go.Sort

/-- The stream of the fixed calls, as it is put. -/
def knX : List BP := [(⟨0, 1, 0, 1, 0, 0, 0⟩, [7])]
def knL : List UInt8 := (putR 9 1 0 0 1 1 knX 0).1
theorem kn_put : putR 9 1 0 0 1 1 knX 0 = (knL, 0) := by decide +kernel
theorem kn_len : knL.length = 25 := by decide +kernel
theorem kn_parse : parseB knL = ([9, 1, 0, 0], [((0, 1, 0, 1, 0), 18, 0)], 1, 0, 0) := by kernel_rfl
theorem kn_pay : payR knL [⟨0, 1, 0, 1, 0, 18, 0⟩] 0 = [7] := by decide +kernel
theorem kn_putC {A1 A2 A0 : Option Addr} (w : World) (hb : Rd w w.heap.size A2 (blksI [⟨0, 1, 0, 1, 0, 0, 0⟩])) (hr : Rd w w.heap.size A1 [.slice A0 1 1]) (h0 : Rd w w.heap.size A0 (bvs [7])) :
    Calls Try.prog 12 #[.agg #[.int .i64 9, .int .i64 1, .int .i64 0, .int .i64 0, .slice A2 1 1, .int .i64 0, .int .u32 0], .slice A1 1 1] w fun e w' => ∃ A c, e = .returned (.tuple #[.slice A 25 c, .int .i64 0]) ∧ 25 ≤ c ∧ Rd w' w'.heap.size A (bvs knL) ∧ Below w.heap.size w w' := by
  have h := frmPut_any (b := 9) (u := 1) (r := 0) (m := 0) (tt := 0) (su := 0) (A2 := A2) (A1 := A1) (c2 := 1) (c1 := 1) (bs := [⟨0, 1, 0, 1, 0, 0, 0⟩]) (rs := [⟨A0, 1, 1, [7]⟩]) w hb
    ⟨hr, fun r hr2 => by rw [List.mem_singleton.1 hr2]; exact ⟨rfl, Nat.le_refl _, (by show (1 : Nat) ≤ 9223372036854775807; decide), h0⟩⟩ (by simp) (by simp) (fun x hx => by rw [List.mem_singleton.1 hx]; exact ⟨⟨by decide, by decide⟩, ⟨by decide, by decide⟩, ⟨by decide, by decide⟩, ⟨by decide, by decide⟩, by decide, by decide⟩) (by decide)
  rw [show putR 9 1 0 0 (List.length ([⟨0, 1, 0, 1, 0, 0, 0⟩] : List B7)) (List.length ([⟨A0, 1, 1, [7]⟩] : List BRow)) (([⟨0, 1, 0, 1, 0, 0, 0⟩] : List B7).zip (([⟨A0, 1, 1, [7]⟩] : List BRow).map BRow.l)) 0 = (knL, 0) from kn_put] at h
  refine Calls.mono h ?_
  rintro e w' ⟨v, rfl, ⟨A, c, rfl, hc, hrd⟩, hbw⟩
  rw [kn_len] at hc ⊢
  exact ⟨A, c, rfl, hc, hrd, hbw⟩
theorem kn_parseC {A : Option Addr} {c : Nat} (w : World) (hc : 25 ≤ c) (hr : Rd w w.heap.size A (bvs knL)) :
    Calls Try.prog 7 #[.slice A 25 c] w fun e w' => ∃ A2 c2, e = .returned (.tuple #[.agg #[.int .i64 9, .int .i64 1, .int .i64 0, .int .i64 0, .slice A2 1 c2, .int .i64 1, .int .u32 0], .int .i64 0]) ∧ Rd w' w'.heap.size A2 (blksI [⟨0, 1, 0, 1, 0, 18, 0⟩]) ∧ Below w.heap.size w w' := by
  have h := frmParse_any A 25 c knL w hr kn_len hc (by decide)
  rw [kn_parse] at h
  refine Calls.mono h ?_
  rintro e w' ⟨v, rfl, ⟨A2, c2, rfl, -, hrd⟩, hbw⟩
  exact ⟨A2, c2, rfl, hrd, hbw⟩
theorem kn_payC {A A2 : Option Addr} {c c2 : Nat} (w : World) (hc : 25 ≤ c) (hr : Rd w w.heap.size A (bvs knL)) (hb : Rd w w.heap.size A2 (blksI [⟨0, 1, 0, 1, 0, 18, 0⟩])) :
    Calls Try.prog 10 #[.slice A 25 c, .agg #[.int .i64 9, .int .i64 1, .int .i64 0, .int .i64 0, .slice A2 1 c2, .int .i64 1, .int .u32 0], .int .i64 0] w fun e w' => ∃ v, e = .returned v ∧ IsBytes [7] v w' ∧ Below w.heap.size w w' := by
  have h := frmPay_any (o0 := 9) (o1 := 1) (o2 := 0) (o3 := 0) (tt := 1) (su := 0) (c2 := c2) 0 w hr kn_len hc (by decide) hb (fun x hx => by rw [List.mem_singleton.1 hx]; decide)
  rw [kn_pay] at h
  exact h
set_option maxRecDepth 100000 in
set_option maxHeartbeats 4000000 in
theorem known32_any (W : World) : Calls Try.prog 6 #[] W fun e w' => e = .returned (.bool true) ∧ Below W.heap.size W w' := by
  obtain ⟨w1, hw1⟩ : ∃ w1, w1 = W.alloc (.cells #[.int .i64 0, .int .i64 1, .int .i64 0, .int .i64 1, .int .u32 0, .int .i64 0, .int .i64 0] 36) := ⟨_, rfl⟩
  obtain ⟨w2, hw2⟩ : ∃ w2, w2 = w1.alloc (.cells #[.int .i64 9, .int .i64 1, .int .i64 0, .int .i64 0, .slice (some ⟨W.heap.size, 0, none⟩) 1 1, .int .i64 0, .int .u32 0] 29) := ⟨_, rfl⟩
  obtain ⟨w3, hw3⟩ : ∃ w3, w3 = w2.alloc (.cells #[.int .u8 7] 5) := ⟨_, rfl⟩
  obtain ⟨w4, hw4⟩ : ∃ w4, w4 = w3.alloc (.cells #[.slice (some ⟨W.heap.size + 1 + 1, 0, none⟩) 1 1] 22) := ⟨_, rfl⟩
  have s1 : w1.heap.size = W.heap.size + 1 := by rw [hw1]; simp
  have s2 : w2.heap.size = W.heap.size + 1 + 1 := by rw [hw2]; simp [s1]
  have s3 : w3.heap.size = W.heap.size + 1 + 1 + 1 := by rw [hw3]; simp [s2]
  have b1 : Below W.heap.size W w1 := by rw [hw1]; exact (Below.refl _ _).alloc (Nat.le_refl _) _
  have b2 : Below w1.heap.size w1 w2 := by rw [hw2]; exact (Below.refl _ _).alloc (Nat.le_refl _) _
  have b3 : Below w2.heap.size w2 w3 := by rw [hw3]; exact (Below.refl _ _).alloc (Nat.le_refl _) _
  have b4 : Below w3.heap.size w3 w4 := by rw [hw4]; exact (Below.refl _ _).alloc (Nat.le_refl _) _
  have b34 := b3.trans (b4.mono b3.size)
  have b24 := b2.trans (b34.mono b2.size)
  have r0 : Rd w1 w1.heap.size (some ⟨W.heap.size, 0, none⟩) (blksI [⟨0, 1, 0, 1, 0, 0, 0⟩]) := by rw [hw1]; exact Rd.new W _ _
  have r2 : Rd w3 w3.heap.size (some ⟨W.heap.size + 1 + 1, 0, none⟩) (bvs [7]) := by rw [hw3, ← s2]; exact Rd.new w2 _ _
  have r3 : Rd w4 w4.heap.size (some ⟨W.heap.size + 1 + 1 + 1, 0, none⟩) [.slice (some ⟨W.heap.size + 1 + 1, 0, none⟩) 1 1] := by rw [hw4, ← s3]; exact Rd.new w3 _ _
  have C1 := Lib.hid (kn_putC w4 ((r0.below b24).more b24.size) r3 ((r2.below b4).more b4.size))
  have HB4 := Lib.hid (b1.trans (b24.mono b1.size))
  have HW := Lib.hid (show (((W.alloc (.cells #[.int .i64 0, .int .i64 1, .int .i64 0, .int .i64 1, .int .u32 0, .int .i64 0, .int .i64 0] 36)).alloc (.cells #[.int .i64 9, .int .i64 1, .int .i64 0, .int .i64 0, .slice (some ⟨W.heap.size, 0, none⟩) 1 1, .int .i64 0, .int .u32 0] 29)).alloc (.cells #[.int .u8 7] 5)).alloc (.cells #[.slice (some ⟨W.heap.size + 1 + 1, 0, none⟩) 1 1] 22) = w4 by rw [hw4, hw3, hw2, hw1])
  clear hw1 hw2 hw3 hw4 s1 s2 s3 b1 b2 b3 b4 b34 b24 r0 r2 r3
  go_enter Try.func6, Try.ntmps6
  go_wp2_with fail
  rw [HW.out]
  refine C1.out.mono ?_
  rintro _ w5 ⟨A5, c5, rfl, hc5, hr5, hb5⟩
  have C2 := Lib.hid (kn_parseC w5 hc5 hr5)
  have HB5 := Lib.hid (HB4.out.trans (hb5.mono HB4.out.size))
  have HR5 := Lib.hid hr5
  have HC5 := Lib.hid hc5
  clear C1 HW HB4 hr5 hb5 hc5
  go_wp2_with fail
  refine C2.out.mono ?_
  rintro _ w6 ⟨A6, c6, rfl, hr6, hb6⟩
  obtain ⟨w7, hw7⟩ : ∃ w7, w7 = w6.alloc (.cells #[.int .i64 9, .int .i64 1, .int .i64 0, .int .i64 0, .slice A6 1 c6, .int .i64 1, .int .u32 0] 29) := ⟨_, rfl⟩
  obtain ⟨G, hG⟩ : ∃ G, G = w6.heap.size := ⟨_, rfl⟩
  have b7 : Below w6.heap.size w6 w7 := by rw [hw7]; exact (Below.refl _ _).alloc (Nat.le_refl _) _
  have hs7 : Blk w7 G 29 [.int .i64 9, .int .i64 1, .int .i64 0, .int .i64 0, .slice A6 1 c6, .int .i64 1, .int .u32 0] := by rw [hw7]; exact blk_new _ _ _ hG
  have hr7 := (hr6.below b7).more b7.size
  have b57 := hb6.trans (b7.mono hb6.size)
  have C3 := Lib.hid (kn_payC (c2 := c6) w7 HC5.out ((HR5.out.below b57).more b57.size) hr7)
  have HB7 := Lib.hid (HB5.out.trans (b57.mono HB5.out.size))
  obtain ⟨b, off, rfl, -, -, -, -, -, -, x5, -⟩ := rd_blk hr7 (i := 0) rfl
  simp only [Nat.zero_mul, Nat.add_zero] at x5
  have z0 := hs7.cell 0
  have z1 := hs7.cell 1
  have z2 := hs7.cell 2
  have z3 := hs7.cell 3
  have z4 := hs7.cell 4
  have z5 := hs7.cell 5
  have z6 := hs7.cell 6
  simp only [List.getElem?_cons_zero, List.getElem?_cons_succ] at z0 z1 z2 z3 z4 z5 z6
  have HW7 := Lib.hid hw7
  have HG := Lib.hid hG
  clear hw7 hG b7 hs7 hr7 b57 hr6 hb6 C2 HB5 HR5 HC5
  go_wp2_with (first
    | ((with_reducible show wpList _ _ _ (({ dst := some 23, op := _, type := _, pos := _, after := _, guard := _ } : Oper) :: _) _ _); rw [← HW7.out, ← HG.out])
    | ((with_reducible show wpList _ _ _ (({ dst := some 26, op := _, type := _, pos := _, after := _, guard := _ } : Oper) :: _) _ _); rw [← HW7.out, ← HG.out])
    | ((with_reducible show wpList _ _ _ (({ dst := some 34, op := _, type := _, pos := _, after := _, guard := _ } : Oper) :: _) _ _); rw [← HW7.out, ← HG.out]))
  refine C3.out.mono ?_
  rintro _ w8 ⟨v8, rfl, hv8, hb8⟩
  have HX := Lib.hid hv8
  have HB8 := Lib.hid (HB7.out.trans (hb8.mono HB7.out.size))
  clear C3 hv8 hb8 HB7 z0 z1 z2 z3 z4 z5 z6 x5
  go_wp2_with ((with_reducible show wpList _ _ _ (({ dst := some 56, op := _, type := _, pos := _, after := _, guard := _ } : Oper) :: _) _ _); go_must (refine wpList_strW rfl 22 9 5 (.tmp 55) rfl Try.underlying22 Try.underlying5 Try.underlying9 _ HX.out ?_))
  go_ret
  exact ⟨rfl, HB8.out⟩
end Go.Proofs.Ytlbpolkmhhmkgaa
namespace Go.Proofs.Ytlbpolkmhhmkgaa
open Go.RowKit Go.Sort

theorem rd_take32 {w : World} {B m : Nat} {A : Option Addr} {l : List UInt8} (h : Rd w B A (bvs l)) : Rd w B A (bvs (l.take m)) := fun k u hu => by
  refine h k u ?_
  rw [show bvs (l.take m) = (bvs l).take m by simp [bvs, List.map_take]] at hu
  rw [List.getElem?_take] at hu
  split at hu
  · exact hu
  · cases hu
theorem payR_none {l : List UInt8} {bs : List B7} {k : Int} (h : k < 0 ∨ (bs.length : Int) ≤ k) : payR l bs k = [] := by
  unfold payR
  by_cases h0 : 0 ≤ k
  · rw [if_pos h0, List.getElem?_eq_none (by omega)]
  · rw [if_neg h0]
theorem payR_some {l : List UInt8} {bs : List B7} {j : Nat} {q : Blk7} (h : bs[j]? = some (B7.of q)) (hl : q.2.1 + q.1.2.2.2.1 ≤ l.length) : payR l bs (j : Int) = (l.drop q.2.1).take q.1.2.2.2.1 := by
  unfold payR
  rw [if_pos (by omega), Int.toNat_natCast, h]
  simp only
  rw [if_pos (show payOk l.length (B7.of q) from ⟨by simp only [B7.of]; omega, by simp only [B7.of]; omega, by simp only [B7.of]; omega⟩)]
  simp only [B7.of, Int.toNat_natCast]
set_option maxRecDepth 100000 in
set_option maxHeartbeats 4000000 in
theorem frameParses_law (A : Option Addr) (n c : Nat) (l : List UInt8) (k : Int) (W : World) (hr : Rd W W.heap.size A (bvs l)) (hn : l.length = n) (hnc : n ≤ c) (_ : -9223372036854775808 ≤ k ∧ k ≤ 9223372036854775807) :
    Calls Try.prog 3 #[.slice A n c, .int .i64 k] W fun e w' => e = .returned (.bool true) ∧ Below W.heap.size W w' := by
  have CK := Lib.hid known32_any
  by_cases hl : 600 < n
  · have hli : (600 : Int) < (n : Int) := by omega
    clear hr
    go_enter Try.func3, Try.ntmps3
    go_wp2_with fail
    refine (CK.out _).mono ?_
    rintro _ w1 ⟨rfl, hb1⟩
    have HB1 := Lib.hid hb1
    clear hb1 CK
    go_wp2
    go_ret
    exact ⟨rfl, HB1.out⟩
  · have hli : ¬ (600 : Int) < (n : Int) := by omega
    have hn600 : n ≤ 600 := by omega
    obtain ⟨o0, o1, o2, o3, bs, tt, su, e, hq, hbl, hin⟩ := parseB_form l
    obtain ⟨N, hN⟩ : ∃ N, N = bs.length := ⟨_, rfl⟩
    obtain ⟨xs, hxs⟩ : ∃ xs, xs = bs.map B7.of := ⟨_, rfl⟩
    have hxl : xs.length = N := by rw [hxs, List.length_map, hN]
    have C1 := Lib.hid (fun w (h : Rd w w.heap.size A (bvs l)) => frmParse_told hn (by omega) hq hN.symm hnc w h)
    have C2 := Lib.hid (fun w (h : Rd w w.heap.size A (bvs l)) => refFParse_told hn (by omega) hq hN.symm hnc w h)
    rw [← hxs] at C1 C2
    have HX := Lib.hid (And.intro hxl (And.intro (show N ≤ 600 by omega) (show ∀ x ∈ xs, 0 ≤ x.fr ∧ 0 ≤ x.co ∧ x.fr + x.co ≤ (n : Int) by
      intro x hx
      rw [hxs] at hx
      obtain ⟨q, hq1, rfl⟩ := List.mem_map.1 hx
      have h := hin q hq1
      rw [hn] at h
      simp only [B7.of]
      omega)))
    have HQ := Lib.hid (show ∀ x ∈ xs, ∃ q : Blk7, x = B7.of q ∧ q.2.1 + q.1.2.2.2.1 ≤ n by
      intro x hx
      rw [hxs] at hx
      obtain ⟨q, hq1, rfl⟩ := List.mem_map.1 hx
      exact ⟨q, rfl, by rw [← hn]; exact hin q hq1⟩)
    have HR := Lib.hid hr
    have HN := Lib.hid (And.intro hn hnc)
    clear hq hbl hin hN hxs hxl hr hn hnc
    go_enter Try.func3, Try.ntmps3
    go_wp2_with fail
    refine (C1.out _ HR.out).mono ?_
    rintro _ w1 ⟨A1, c1, rfl, hr1, hb1⟩
    obtain ⟨w2, hw2⟩ : ∃ w2, w2 = w1.alloc (.cells #[.int .i64 o0, .int .i64 o1, .int .i64 o2, .int .i64 o3, .slice A1 N c1, .int .i64 (tt : Int), .int .u32 (su : Int)] 29) := ⟨_, rfl⟩
    obtain ⟨G1, hG1⟩ : ∃ G1, G1 = w1.heap.size := ⟨_, rfl⟩
    have b2 : Below w1.heap.size w1 w2 := by rw [hw2]; exact (Below.refl _ _).alloc (Nat.le_refl _) _
    have hs2 : Blk w2 G1 29 [.int .i64 o0, .int .i64 o1, .int .i64 o2, .int .i64 o3, .slice A1 N c1, .int .i64 (tt : Int), .int .u32 (su : Int)] := by rw [hw2]; exact blk_new _ _ _ hG1
    have HS2 := Lib.hid hs2
    have HB2 := Lib.hid (hb1.trans (b2.mono hb1.size))
    have HR2 := Lib.hid ((hr1.below b2).more b2.size)
    have HW2 := Lib.hid hw2
    have HG1 := Lib.hid hG1
    clear hw2 hG1 b2 hs2 hb1 hr1 C1
    go_wp2_with fail
    rw [← HW2.out, ← HG1.out]
    refine (C2.out _ ((HR.out.below HB2.out).more HB2.out.size)).mono ?_
    rintro _ w3 ⟨A2, c2, rfl, hr3, hb3⟩
    obtain ⟨w4, hw4⟩ : ∃ w4, w4 = w3.alloc (.cells #[.int .i64 o0, .int .i64 o1, .int .i64 o2, .int .i64 o3, .slice A2 N c2, .int .i64 (tt : Int), .int .u32 (su : Int)] 29) := ⟨_, rfl⟩
    obtain ⟨G2, hG2⟩ : ∃ G2, G2 = w3.heap.size := ⟨_, rfl⟩
    have b4 : Below w3.heap.size w3 w4 := by rw [hw4]; exact (Below.refl _ _).alloc (Nat.le_refl _) _
    have b24 := hb3.trans (b4.mono hb3.size)
    have hs4 : Blk w4 G2 29 [.int .i64 o0, .int .i64 o1, .int .i64 o2, .int .i64 o3, .slice A2 N c2, .int .i64 (tt : Int), .int .u32 (su : Int)] := by rw [hw4]; exact blk_new _ _ _ hG2
    have hs3 := HS2.out.grow b24
    have HB4 := Lib.hid (HB2.out.trans (b24.mono HB2.out.size))
    have HR1 := Lib.hid ((HR2.out.below b24).more b24.size)
    have HR3 := Lib.hid ((hr3.below b4).more b4.size)
    have HS := Lib.hid (And.intro hs3 hs4)
    have HW4 := Lib.hid hw4
    have HG2 := Lib.hid hG2
    have CS := Lib.hid (refSame_eq (c1 := c1) (c2 := c2) (o0 := o0) (o1 := o1) (o2 := o2) (o3 := o3) (tt := (tt : Int)) (su := (su : Int)) w4 HR1.out HR3.out HX.out.1 (by have := HX.out.2.1; omega))
    have z0 := hs3.cell 0
    have z1 := hs3.cell 1
    have z2 := hs3.cell 2
    have z3 := hs3.cell 3
    have z4 := hs3.cell 4
    have z5 := hs3.cell 5
    have z6 := hs3.cell 6
    have y0 := hs4.cell 0
    have y1 := hs4.cell 1
    have y2 := hs4.cell 2
    have y3 := hs4.cell 3
    have y4 := hs4.cell 4
    have y5 := hs4.cell 5
    have y6 := hs4.cell 6
    simp only [List.getElem?_cons_zero, List.getElem?_cons_succ] at z0 z1 z2 z3 z4 z5 z6 y0 y1 y2 y3 y4 y5 y6
    clear hw4 hG2 b4 b24 hs4 hs3 hb3 hr3 C2 HS2 HB2 HR2
    go_wp2_with ((with_reducible show wpList _ _ _ (({ dst := some 25, op := _, type := _, pos := _, after := _, guard := _ } : Oper) :: _) _ _); rw [← HW4.out, ← HG2.out])
    refine CS.out.mono ?_
    rintro _ w5 ⟨rfl, hb5⟩
    have HB5 := Lib.hid (HB4.out.trans (hb5.mono HB4.out.size))
    have HS5 := Lib.hid (And.intro (HS.out.1.grow hb5) (HS.out.2.grow hb5))
    have HR5 := Lib.hid ((HR3.out.below hb5).more hb5.size)
    have CP := Lib.hid (frmPay_any (o0 := o0) (o1 := o1) (o2 := o2) (o3 := o3) (tt := (tt : Int)) (su := (su : Int)) (c2 := c1) k w5 ((HR.out.below HB5.out).more HB5.out.size) HN.out.1 HN.out.2 (by omega) ((HR1.out.below hb5).more hb5.size) (fun x hx => by have := HX.out.2.2 x hx; omega))
    rw [HX.out.1] at CP
    have u0 := HS5.out.1.cell 0
    have u1 := HS5.out.1.cell 1
    have u2 := HS5.out.1.cell 2
    have u3 := HS5.out.1.cell 3
    have u4 := HS5.out.1.cell 4
    have u5 := HS5.out.1.cell 5
    have u6 := HS5.out.1.cell 6
    simp only [List.getElem?_cons_zero, List.getElem?_cons_succ] at u0 u1 u2 u3 u4 u5 u6
    clear z0 z1 z2 z3 z4 z5 z6 y0 y1 y2 y3 y4 y5 y6 CS hb5 HS HB4 HR1 HR3
    go_wp2_with fail
    refine CP.out.mono ?_
    rintro _ w6 ⟨v6, rfl, ⟨A6, c6, rfl, hc6, hr6⟩, hb6⟩
    have HB6 := Lib.hid (HB5.out.trans (hb6.mono HB5.out.size))
    have hs6 := HS5.out.2.grow hb6
    have HS6 := Lib.hid hs6
    have HR6 := Lib.hid ((HR5.out.below hb6).more hb6.size)
    have HP6 := Lib.hid (And.intro hc6 hr6)
    have y4 := hs6.cell 4
    simp only [List.getElem?_cons_zero, List.getElem?_cons_succ] at y4
    clear u0 u1 u2 u3 u4 u5 u6 CP hb6 hs6 HS5 HR5 hc6 hr6 HB5
    by_cases hk0 : k < 0
    · have hp0 : (payR l xs k).length = 0 := by rw [payR_none (.inl hk0)]; rfl
      have HP0 := Lib.hid hp0
      rw [hp0]
      clear hp0
      go_wp2_with fail
      refine (CK.out _).mono ?_
      rintro _ w7 ⟨rfl, hb7⟩
      have HB7 := Lib.hid (HB6.out.trans (hb7.mono HB6.out.size))
      clear hb7 CK y4
      go_wp2
      go_ret
      exact ⟨rfl, HB7.out⟩
    · by_cases hkn : (N : Int) ≤ k
      · have hp0 : (payR l xs k).length = 0 := by rw [payR_none (.inr (by rw [HX.out.1]; exact hkn))]; rfl
        rw [hp0]
        clear hp0
        go_wp2_with fail
        refine (CK.out _).mono ?_
        rintro _ w7 ⟨rfl, hb7⟩
        have HB7 := Lib.hid (HB6.out.trans (hb7.mono HB6.out.size))
        clear hb7 CK y4
        go_wp2
        go_ret
        exact ⟨rfl, HB7.out⟩
      · obtain ⟨j, rfl⟩ : ∃ j : Nat, k = (j : Int) := ⟨k.toNat, by omega⟩
        obtain ⟨x, hx⟩ : ∃ x, xs[j]? = some x := ⟨_, List.getElem?_eq_getElem (by rw [HX.out.1]; omega)⟩
        obtain ⟨⟨⟨mo, ra, mi, co, s7⟩, fr, pl⟩, rfl, hle⟩ := HQ.out x (List.mem_of_getElem? hx)
        have hpay := payR_some hx (by rw [HN.out.1]; exact hle)
        obtain ⟨bb, off, rfl, -, p0, p1, p2, p3, p4, p5, p6⟩ := rd_blk HR6.out hx
        simp only [B7.of] at p0 p1 p2 p3 p4 p5 p6 hpay hle
        obtain ⟨w7, hw7⟩ : ∃ w7, w7 = w6.alloc (.cells #[.int .i64 (mo : Int), .int .i64 (ra : Int), .int .i64 (mi : Int), .int .i64 (co : Int), .int .u32 (s7 : Int), .int .i64 (fr : Int), .int .i64 (pl : Int)] 36) := ⟨_, rfl⟩
        obtain ⟨G3, hG3⟩ : ∃ G3, G3 = w6.heap.size := ⟨_, rfl⟩
        have b7 : Below w6.heap.size w6 w7 := by rw [hw7]; exact (Below.refl _ _).alloc (Nat.le_refl _) _
        have hs7 : Blk w7 G3 36 [.int .i64 (mo : Int), .int .i64 (ra : Int), .int .i64 (mi : Int), .int .i64 (co : Int), .int .u32 (s7 : Int), .int .i64 (fr : Int), .int .i64 (pl : Int)] := by rw [hw7]; exact blk_new _ _ _ hG3
        have q3 := hs7.cell 3
        have q5 := hs7.cell 5
        simp only [List.getElem?_cons_zero, List.getElem?_cons_succ] at q3 q5
        have t3 := cell_regrown q3
        have t5 := cell_regrown q5
        have hjN : (j : Int) < (N : Int) := by omega
        have HW7 := Lib.hid hw7
        have HG3 := Lib.hid hG3
        have HB7 := Lib.hid (HB6.out.trans (b7.mono HB6.out.size))
        have CK7 := Lib.hid (fun d os => Calls.regrown_of (known32_any (grow (redrawn w7 d) os)))
        have hfr : fr + co ≤ n := hle
        obtain ⟨Lq, hLq⟩ : ∃ Lq, Lq = (l.drop fr).take co := ⟨_, rfl⟩
        have hlq : Lq.length = co := by rw [hLq, List.length_take, List.length_drop, HN.out.1]; omega
        rw [hpay, ← hLq, hlq] at HP6 ⊢
        have hr7 := (HP6.out.2.below b7).more b7.size
        have E1 : ∀ d os, Sem.run Try.prog (convert 22 9 (.slice A6 co c6)) (grow (redrawn w7 d) os) = Result.ok (.string ⟨Lq.toArray⟩) (grow (redrawn w7 d) os) := fun d os =>
          run_str _ _ _ 5 Try.underlying22 Try.underlying5 Try.underlying9 _ A6 Lq c6 (hr7.below (below_regrown w7 d os)) co hlq
        have hrs := rd_take32 (m := co) (rd_from ((HR.out.below HB7.out).more HB7.out.size) HN.out.1 HN.out.2 (show fr ≤ n by omega))
        rw [← hLq] at hrs
        have E2 : ∀ d os, Sem.run Try.prog (convert 22 9 (.slice (if c = fr then A else Option.map (fun x => x.add fr) A) co (c - fr))) (grow (redrawn w7 d) os) = Result.ok (.string ⟨Lq.toArray⟩) (grow (redrawn w7 d) os) := fun d os =>
          run_str _ _ _ 5 Try.underlying22 Try.underlying5 Try.underlying9 _ _ Lq _ (hrs.below (below_regrown w7 d os)) _ hlq
        have HLQ := Lib.hid hLq
        have hnc := HN.out.2
        clear hw7 hG3 b7 hs7 q3 q5 hx hle hr7 hLq hpay hrs
        go_wp2_with fail
        rw [← HW7.out, ← HG3.out]
        refine wp_region_quiet_below (by kernel_rfl) (by kernel_rfl) ?_
        repeat (go_big_quiet_step ((go_at_call 6; exact CK7.out _ _)))
        refine wpQuiet_nil ?_
        intro _ hw'
        obtain ⟨⟨dq, osq⟩, hw''⟩ := hw'
        subst hw''
        have HB8 := Lib.hid (HB7.out.trans ((below_regrown w7 dq osq).mono HB7.out.size))
        clear t3 t5 CK7 E1 E2 CK y4 p0 p1 p2 p3 p4 p5 p6
        simp only at HB8 ⊢
        obtain ⟨w8, hw8⟩ : ∃ w8, w8 = grow (redrawn w7 dq) osq := ⟨_, rfl⟩
        rw [← hw8] at HB8 ⊢
        clear hw8
        go_wp2
        all_goals
          go_ret
          exact ⟨rfl, HB8.out⟩
end Go.Proofs.Ytlbpolkmhhmkgaa
