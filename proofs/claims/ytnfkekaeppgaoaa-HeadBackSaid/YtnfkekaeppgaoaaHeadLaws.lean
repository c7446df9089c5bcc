/- Layer 29: what comes of fixed calls; HeadGets. -/
import Derived.Test.YtnfkekaeppgaoaaHeadMath
namespace Go.Proofs.Ytnfkekaeppgaoaa
open Go.RowKit Go.Sort

theorem hdGet_g {A : Option Addr} {c : Nat} {l : List UInt8} {w : World} (hr : Rd w w.heap.size A (bvs l)) (hc : l.length ≤ c) (hl : l.length ≤ 10000) {m j e : Nat} (hg : lget (l.drop 7) = (m, j, e)) :
    Calls Try.prog 14 #[.slice A l.length c] w (GetOut w (getP l m j e)) := hdGet_any A l.length c l w hr rfl hc hl hg
/-- The one options' bytes. -/
def one29 : List UInt8 := headS 1 1 0 0
theorem lput_one : lput 1 = [1] := lput_small (by decide)
theorem one_len : one29.length = 12 := by
  unfold one29
  rw [headS_len, lput_one]
  rfl
theorem one_take : one29.take 8 = [87, 80, 82, 49, 1, 0, 0, 1] := by
  unfold one29 headS headL
  rw [lput_one]
  rfl
set_option maxRecDepth 100000 in
set_option maxHeartbeats 2000000 in
theorem known29_any (W : World) : Calls Try.prog 12 #[] W fun e w' => e = .returned (.bool true) ∧ Below W.heap.size W w' := by
  have CP := Lib.hid (fun w => hdPut_yes (b := 1) (u := 1) (r := 0) (m := 0) (by decide) (by decide) (by decide) (by decide) (by decide) w)
  rw [show headS 1 1 0 0 = one29 from rfl] at CP
  obtain ⟨hlg, hgp⟩ := get_put (b := 1) (u := 1) (r := 0) (m := 0) (by decide) (by decide) (by decide) (by decide) (by decide) []
  rw [List.append_nil, show headS 1 1 0 0 = one29 from rfl] at hlg hgp
  rw [one_len] at hgp
  have CG := Lib.hid (fun A c w (hr : Rd w w.heap.size A (bvs one29)) (hc : one29.length ≤ c) => hdGet_g hr hc (by rw [one_len]; decide) hlg)
  rw [hgp, one_len] at CG
  unfold GetOut at CG
  rw [show optA ([((1 : Nat) : Int), ((1 : Nat) : Int), ((0 : Nat) : Int), ((0 : Nat) : Int)], 12, 0).1 = .agg #[.int .i64 1, .int .i64 1, .int .i64 0, .int .i64 0] from rfl] at CG
  have h8 := one_take
  obtain ⟨L, hL⟩ : ∃ L, L = one29 := ⟨_, rfl⟩
  have hLl : L.length = 12 := by rw [hL]; exact one_len
  rw [← hL] at CP CG h8
  unfold optV at CP
  have H8 := Lib.hid h8
  have HL := Lib.hid hLl
  have HO := Lib.hid (show Blk (W.alloc (.cells #[.int .i64 1, .int .i64 1, .int .i64 0, .int .i64 0] 24)) W.heap.size 24 [.int .i64 1, .int .i64 1, .int .i64 0, .int .i64 0] from heap_alloc_new W _)
  have HB := Lib.hid ((Below.refl W.heap.size W).alloc (Nat.le_refl _) (.cells #[.int .i64 1, .int .i64 1, .int .i64 0, .int .i64 0] 24))
  clear hL hlg hgp h8 hLl
  go_enter Try.func12, Try.ntmps12
  go_wp2_with fail
  refine (CP.out _).mono ?_
  rintro e w1 ⟨v1, rfl, hB1, hb1⟩
  have HO1 := Lib.hid (HO.out.grow hb1)
  have HB1 := Lib.hid (HB.out.trans (hb1.mono HB.out.size))
  obtain ⟨A, c, rfl, hc, hr⟩ := hB1
  rw [HL.out] at hc
  have HRD := Lib.hid hr
  rw [HL.out]
  clear hr hb1 HO HB CP
  go_wp2_with fail
  refine (CG.out A c w1 HRD.out hc).mono ?_
  rintro e w2 ⟨rfl, hb2⟩
  have hO2 := HO1.out.grow hb2
  have HB2 := Lib.hid ((HB1.out.trans (hb2.mono HB1.out.size)).alloc (Nat.le_trans HB1.out.size hb2.size) (.cells #[.int .i64 1, .int .i64 1, .int .i64 0, .int .i64 0] 24))
  have hcv : (convert 29 9 (.slice A 8 c)).run Try.prog (w2.alloc (.cells #[.int .i64 1, .int .i64 1, .int .i64 0, .int .i64 0] 24)) = .ok (.string ⟨#[87, 80, 82, 49, 1, 0, 0, 1]⟩) (w2.alloc (.cells #[.int .i64 1, .int .i64 1, .int .i64 0, .int .i64 0] 24)) := by
    have hrd := ((HRD.out.below hb2).more hb2.size).take 8
    have h := strOf_run (l := L.take 8) (v := .slice A 8 c) (w := w2.alloc (.cells #[.int .i64 1, .int .i64 1, .int .i64 0, .int .i64 0] 24)) ⟨A, c, by rw [List.length_take, HL.out]; rfl, by rw [List.length_take, HL.out]; omega, by
      have h2 := (hrd.alloc (Nat.le_refl _) (.cells #[.int .i64 1, .int .i64 1, .int .i64 0, .int .i64 0] 24)).more (B' := (w2.alloc (.cells #[.int .i64 1, .int .i64 1, .int .i64 0, .int .i64 0] 24)).heap.size) (by simp)
      unfold bvs at h2 ⊢
      rw [List.map_take]
      exact h2⟩
    rw [H8.out] at h
    exact h
  have h8c : (8 : Int) ≤ (c : Int) := by omega
  have hlt := hO2.lt
  have q0 := hO2.cell 0
  have q1 := hO2.cell 1
  have q2 := hO2.cell 2
  have q3 := hO2.cell 3
  simp only [List.getElem?_cons_zero, List.getElem?_cons_succ] at q0 q1 q2 q3
  clear hb2 HRD hO2
  go_wp2
  go_ret
  exact ⟨rfl, HB2.out⟩
theorem getP_len (l : List UInt8) (m j e : Nat) : (getP l m j e).1.length = 4 := by
  unfold getP
  (repeat' split) <;> rfl
set_option maxRecDepth 100000 in
set_option maxHeartbeats 2000000 in
theorem headGets_law (A : Option Addr) (n c : Nat) (l : List UInt8) (W : World) (hr : Rd W W.heap.size A (bvs l)) (hn : l.length = n) (hnc : n ≤ c) : Calls Try.prog 5 #[.slice A n c] W fun e w' => e = .returned (.bool true) ∧ Below W.heap.size W w' := by
  have CK := Lib.hid known29_any
  by_cases hl : 200 < n
  · have hli : (200 : Int) < (n : Int) := by omega
    clear hr
    go_enter Try.func5, Try.ntmps5
    go_wp2_with fail
    refine (CK.out _).mono ?_
    rintro e w1 ⟨rfl, hb1⟩
    go_wp2
    go_ret
    exact ⟨rfl, hb1⟩
  · have hli : ¬ (200 : Int) < (n : Int) := by omega
    obtain ⟨⟨m, j, e0⟩, hg⟩ : ∃ r, lget (l.drop 7) = r := ⟨_, rfl⟩
    have C1 := Lib.hid (fun w (hr : Rd w w.heap.size A (bvs l)) => hdGet_any A n c l w hr hn hnc (by omega) hg)
    have C2 := Lib.hid (fun w (hr : Rd w w.heap.size A (bvs l)) => refHGet_any A n c l w hr hn hnc (by omega) hg)
    rw [← get_same hg] at C2
    unfold GetOut at C1 C2
    obtain ⟨x0, x1, x2, x3, hx⟩ := four_of (getP_len l m j e0)
    rw [hx, show optA [x0, x1, x2, x3] = .agg #[.int .i64 x0, .int .i64 x1, .int .i64 x2, .int .i64 x3] from rfl] at C1 C2
    obtain ⟨c1, hc1⟩ : ∃ c1 : Int, c1 = ((getP l m j e0).2.1 : Int) := ⟨_, rfl⟩
    obtain ⟨c2, hc2⟩ : ∃ c2 : Int, c2 = ((getP l m j e0).2.2 : Int) := ⟨_, rfl⟩
    rw [← hc1, ← hc2] at C1 C2
    have HR := Lib.hid hr
    clear hx hc1 hc2 hg hr
    go_enter Try.func5, Try.ntmps5
    go_wp2_with fail
    refine (C1.out W HR.out).mono ?_
    rintro e w1 ⟨rfl, hb1⟩
    have HB1 := Lib.hid hb1
    have HR1 := Lib.hid ((HR.out.below hb1).more hb1.size)
    clear hb1
    go_wp2_with fail
    have hG := heap_alloc_new w1 (.cells #[.int .i64 x0, .int .i64 x1, .int .i64 x2, .int .i64 x3] 24)
    obtain ⟨w2, hw2⟩ : ∃ w2, w2 = w1.alloc (.cells #[.int .i64 x0, .int .i64 x1, .int .i64 x2, .int .i64 x3] 24) := ⟨_, rfl⟩
    have HB2 := Lib.hid (HB1.out.alloc HB1.out.size (.cells #[.int .i64 x0, .int .i64 x1, .int .i64 x2, .int .i64 x3] 24))
    have hR2 : Rd w2 w2.heap.size A (bvs l) := by
      rw [hw2]
      exact (HR1.out.alloc (Nat.le_refl _) _).more (by simp)
    have HR2 := Lib.hid hR2
    rw [← hw2] at hG HB2 ⊢
    have HG := Lib.hid (show Blk w2 w1.heap.size 24 [.int .i64 x0, .int .i64 x1, .int .i64 x2, .int .i64 x3] from hG)
    clear hG hw2 hR2
    refine (C2.out w2 HR2.out).mono ?_
    rintro e w3 ⟨rfl, hb3⟩
    have HG3 := Lib.hid (HG.out.grow hb3)
    have HB3 := Lib.hid (HB2.out.trans (hb3.mono HB2.out.size))
    have q0 := HG3.out.cell 0
    have q1 := HG3.out.cell 1
    have q2 := HG3.out.cell 2
    have q3 := HG3.out.cell 3
    have hlt := HG3.out.lt
    simp only [List.getElem?_cons_zero, List.getElem?_cons_succ] at q0 q1 q2 q3
    clear hb3
    go_wp2_with fail
    refine (CK.out _).mono ?_
    rintro e w4 ⟨rfl, hb4⟩
    have HB4 := Lib.hid ((HB3.out.alloc HB3.out.size (.cells #[.int .i64 x0, .int .i64 x1, .int .i64 x2, .int .i64 x3] 24)).trans (hb4.mono (by have := HB3.out.size; simp; omega)))
    clear hb4
    go_wp2
    go_ret
    exact ⟨rfl, HB4.out⟩
end Go.Proofs.Ytnfkekaeppgaoaa
