/- Layer 12: of a tree that is none; the law FenNil. -/
import Derived.Test.YtfjfjadlpnlmjaaFenKnown
namespace Go.Proofs.Ytfjfjadlpnlmjaa
open Go.RowKit Go.Shelf
attribute [local go_sem] Oper.semAt_some

theorem fenGet_nil (i : Int) (w : World) :
    Calls Try.prog 20 #[.pointer none, .int .i64 i] w fun e w' => e = .returned (.int .i64 0) ∧ Below w.heap.size w w' := by
  have CH := Lib.hid (fenHas_nil i)
  refine (callsIn_wide (n := 4)).1 ?_
  refine callsIn_of_wp_marks Try.func20 rfl trivial ?_ rfl
  simp only [Try.ntmps20, List.size_toArray, List.length_cons, List.length_nil, Nat.reduceAdd, Nat.reduceSub, Array.replicate_succ, Array.replicate_zero, List.push_toArray, List.append_toArray, List.nil_append, List.cons_append]
  gi_wp2_with (refine ⟨trivial, ?_⟩; gi_at_call 31; refine (callsIn_wide.2 (CH.out _)).mono ?_; rintro e w' ⟨rfl, rfl⟩)
  refine ⟨_, results_tmp rfl _ _ _, ?_⟩
  exact ⟨rfl, (Below.refl _ _).alloc (Nat.le_refl _) _⟩

set_option maxRecDepth 100000 in
set_option maxHeartbeats 2000000 in
theorem fenBelow_nil (i : Int) (w : World) :
    Calls Try.prog 18 #[.pointer none, .int .i64 i] w fun e w' => e = .returned (.int .i64 0) ∧ Below w.heap.size w w' := by
  have CL := Lib.hid fenLen_nil
  have cd := fenDown_any (min (max i 0) 0) 0
  have CD := Lib.hid cd
  have hm : min (max i 0) 0 = 0 := by omega
  have HM := Lib.hid hm
  clear cd hm
  refine (callsIn_wide (n := 4)).1 ?_
  refine callsIn_of_wp_marks Try.func18 rfl trivial ?_ rfl
  simp only [Try.ntmps18, List.size_toArray, List.length_cons, List.length_nil, Nat.reduceAdd, Nat.reduceSub, Array.replicate_succ, Array.replicate_zero, List.push_toArray, List.append_toArray, List.nil_append, List.cons_append]
  gi_wp2_with (first
    | (refine ⟨trivial, ?_⟩; gi_at_call 19; refine (callsIn_wide.2 (CL.out _)).mono ?_; rintro e w' ⟨rfl, rfl⟩)
    | (refine ⟨trivial, ?_⟩; gi_at_call 35; refine (callsIn_wide.2 (CD.out _)).mono ?_; rintro e w3 ⟨rfl, hb3, hs3, hbp, hbe⟩))
  rw [HM.out] at hbp
  have hBs := Boxed.new (w.alloc (.cells #[.pointer none] 24)) 3 (.int .i64 0)
  have hB2 : Below w.heap.size w _ := ((Below.refl _ w).alloc (Nat.le_refl _) (.cells #[.pointer none] 24)).alloc (by simp) (.cells #[.int .i64 0] 3)
  simp only [World.size_alloc] at hs3 hbp hbe hBs
  have hBs3 : Boxed w3 (w.heap.size + 1) 3 (.int .i64 0) := (hb3.block _ (by simp)).trans hBs
  have hB3 := hB2.trans (hb3.mono hB2.size)
  obtain ⟨BT, hBT⟩ : ∃ BT, BT = w.heap.size := ⟨_, rfl⟩
  clear hBs hB2 hb3
  rw [← hBT] at hs3 hbp hbe hBs3 ⊢
  have hle : w.heap.size ≤ BT := by omega
  clear hBT
  refine wpIn_range_state (by omega) (gf := 39) (lb := #[.pointer (some ⟨BT + 1 + 1, 0, none⟩), .pointer (some ⟨BT + 1 + 1 + 1, 0, none⟩)]) rfl (enters_of Try.func39 (by kernel_rfl) rfl)
    (down1_hands 3 (by omega) (BT + 1 + 1) (BT + 1 + 1 + 1) 0 0 (by omega) (by omega) [] (Nat.le_refl 0) w3 hbp hbe) (fun k hk => by rcases hk with rfl | rfl <;> omega) (by omega) (fun _ => rfl)
    (fun _ W => Boxed W (BT + 1) 3 (.int .i64 0) ∧ Below w.heap.size w W)
    (fun s A B row h hg hr => ⟨boxed_grown h.1 hg hr (by omega), h.2.grown hg h.2.size (fun r e => by rcases hr r e with e | e <;> omega)⟩) (fun _ _ k h => ⟨h.1, below_drewN h.2 k⟩) ⟨hBs3, hB3⟩
    (fun x => { tmps := #[.pointer none, .int .i64 i, .pointer (some ⟨BT, 0, none⟩), undef, .int .i64 0, .pointer (some ⟨BT + 1, 0, none⟩), .int .i64 (x : Int), .int .i64 i, .int .i64 (max i 0), .pointer none, .int .i64 0, .int .i64 (min (max i 0) 0), .func (.func 39) #[] #[.pointer (some ⟨BT + 1 + 1, 0, none⟩), .pointer (some ⟨BT + 1 + 1 + 1, 0, none⟩)], .int .i64 (x : Int), undef, undef, undef, undef, undef, undef, undef, undef, undef, undef], defers := [] }) ?assign ?body ?done
  case assign =>
    intro l x Wd K hK
    gi_wp2
    exact hK
  case body =>
    rintro l pre x rest Wd hxs
    simp at hxs
  case done =>
    rintro D Wd hD ⟨hs, hB⟩ hK
    have hsc := hs.cell
    gi_wp2
    refine ⟨by simp, .inl ⟨_, _, rfl, run_takeDeferred hK, ?_⟩⟩
    refine ⟨_, results_tmp rfl _ _ _, ?_⟩
    exact ⟨rfl, hB.trans (belowK_b (w := w) (Nat.le_refl _) Wd D _ _ (by rw [hs3] at hD; omega) hK rfl rfl)⟩

theorem nil_new1 (w : World) : Calls Try.prog 10 #[.int .i64 4096] w fun e w' => ∃ T, e = .returned (.pointer (some ⟨T, 0, none⟩)) ∧ ∃ S, IsTree w' T S (List.replicate 4096 0) ∧ (w.heap.size ≤ T ∧ w.heap.size ≤ S) ∧ Below w.heap.size w w' :=
  fenNew_any 4096 w (by decide) (by decide)
theorem nil_new2 (w : World) : Calls Try.prog 10 #[.int .i64 4097] w fun e w' => e = .returned (.pointer none) ∧ w' = w := fenNew_bad 4097 w (.inr (by decide))
theorem nil_addN {w : World} {T S : Nat} (n k : Nat) (hk : k < n) (h : IsTree w T S (List.replicate n 0)) : Calls Try.prog 12 #[.pointer (some ⟨T, 0, none⟩), .int .i64 (k : Int), .int .i64 1] w fun e w' => e = .returned (.int .i64 0) ∧ (∃ c, c.sum = 1 ∧ IsTree w' T S c) ∧ TurnsB T S w w' := by
  have hs : (List.replicate n (0 : Int)).sum = 0 := by simp
  have hk : k < (List.replicate n (0 : Int)).length := by simpa using hk
  have hg : (List.replicate n (0 : Int))[k]'hk = 0 := by simp
  have h2 := fenAdd_any k 1 h hk (by rw [hg]; decide) (by rw [hs]; decide)
  refine h2.mono fun e w' hh => ⟨hh.1, ⟨_, ?_, hh.2.1⟩, hh.2.2⟩
  rw [set_sum _ _ hk, hs]; decide
theorem nil_add {w : World} {T S : Nat} (h : IsTree w T S (List.replicate 4096 0)) : Calls Try.prog 12 #[.pointer (some ⟨T, 0, none⟩), .int .i64 4095, .int .i64 1] w fun e w' => e = .returned (.int .i64 0) ∧ (∃ c, c.sum = 1 ∧ IsTree w' T S c) ∧ TurnsB T S w w' :=
  nil_addN 4096 4095 (by decide) h

set_option maxHeartbeats 4000000 in
set_option maxRecDepth 100000 in
theorem fenNil_law (i d : Int) (w : World) : Calls Try.prog 5 #[.int .i64 i, .int .i64 d] w (Yes w) := by
  have C1 := Lib.hid fenHalve_nil
  have C2 := Lib.hid (fenFind_nil i)
  have C3 := Lib.hid (fenAdd_nil i d)
  have C4 := Lib.hid (fenGet_nil i)
  have C5 := Lib.hid (fenBelow_nil i)
  have C6 := Lib.hid fenTotal_nil
  have C7 := Lib.hid fenLen_nil
  have C8 := Lib.hid nil_new1
  have C9 := Lib.hid nil_new2
  have C10 := Lib.hid fenKnown_any
  go_enter Try.func5, Try.ntmps5
  go_wp2_with fail
  refine (C1.out _).mono ?_
  rintro e w' ⟨⟨v, rfl⟩, hw⟩
  obtain rfl : _ = w' := hw.symm
  go_wp2_with fail
  refine (C2.out _).mono ?_
  rintro e w' ⟨rfl, hw⟩
  obtain rfl : _ = w' := hw.symm
  go_wp2_with fail
  refine (C8.out _).mono ?_
  rintro e w1 ⟨T, rfl, S, ht1, ⟨hT, hS⟩, hb1⟩
  have HT1 := Lib.hid ht1
  have HB1 := Lib.hid hb1
  have HTS := Lib.hid (And.intro hT hS)
  clear ht1 hb1 hT hS
  go_wp2_with fail
  refine (C3.out _).mono ?_
  rintro e w2 ⟨rfl, hb⟩
  have HT2 := Lib.hid (HT1.out.grow hb)
  have HB2 := Lib.hid (HB1.out.trans (hb.mono HB1.out.size))
  clear hb
  go_wp2_with fail
  refine (C4.out _).mono ?_
  rintro e w3 ⟨rfl, hb⟩
  have HT3 := Lib.hid (HT2.out.grow hb)
  have HB3 := Lib.hid (HB2.out.trans (hb.mono HB2.out.size))
  clear hb
  go_wp2_with fail
  refine (C5.out _).mono ?_
  rintro e w4 ⟨rfl, hb⟩
  have HT4 := Lib.hid (HT3.out.grow hb)
  have HB4 := Lib.hid (HB3.out.trans (hb.mono HB3.out.size))
  clear hb
  go_wp2_with fail
  refine (C6.out _).mono ?_
  rintro e w' ⟨rfl, hw⟩
  obtain rfl : _ = w' := hw.symm
  go_wp2_with fail
  refine (C7.out _).mono ?_
  rintro e w' ⟨rfl, hw⟩
  obtain rfl : _ = w' := hw.symm
  go_wp2_with fail
  refine (C9.out _).mono ?_
  rintro e w' ⟨rfl, hw⟩
  obtain rfl : _ = w' := hw.symm
  go_wp2_with fail
  refine (nil_add HT4.out).mono ?_
  rintro e w5 ⟨rfl, ⟨c, hc, ht5⟩, hu⟩
  have HT5 := Lib.hid ht5
  have HB5 := Lib.hid (HB4.out.trans (hu.below HTS.out.1 HTS.out.2 HB4.out.size))
  have htot := fenTotal_any ht5.2
  rw [hc] at htot
  have HTOT := Lib.hid htot
  clear hu ht5 hc htot
  go_wp2_with fail
  refine HTOT.out.mono ?_
  rintro e w' ⟨rfl, hw⟩
  obtain rfl : _ = w' := hw.symm
  go_wp2_with fail
  refine (C10.out _).mono ?_
  rintro e w6 ⟨rfl, hb⟩
  have HB6 := Lib.hid (HB5.out.trans (hb.mono HB5.out.size))
  clear hb
  go_wp2
  go_ret
  exact ⟨rfl, HB6.out⟩
end Go.Proofs.Ytfjfjadlpnlmjaa
