/- Layer 30: BlockGets, BlockEnds. -/
import Derived.Test.YtcjjlkfenlmmlaaBlkLaws
namespace Go.Proofs.Ytcjjlkfenlmmlaa
open Go.RowKit Go.Sort

set_option maxRecDepth 100000 in
set_option maxHeartbeats 4000000 in
theorem blockGets_law (A : Option Addr) (n c : Nat) (l : List UInt8) (b u r m : Int) (W : World) (hr : Rd W W.heap.size A (bvs l)) (hn : l.length = n) (hnc : n ≤ c) :
    Calls Try.prog 4 #[.slice A n c, .agg #[.int .i64 b, .int .i64 u, .int .i64 r, .int .i64 m]] W fun e w' => e = .returned (.bool true) ∧ Below W.heap.size W w' := by
  have CK := Lib.hid known30_any
  have CM := Lib.hid (fun w => refMay_any b u r m w)
  unfold optV at CM
  have HO := Lib.hid (blk_new W #[.int .i64 b, .int .i64 u, .int .i64 r, .int .i64 m] 26 rfl)
  have HB := Lib.hid ((Below.refl W.heap.size W).alloc (Nat.le_refl _) (.cells #[.int .i64 b, .int .i64 u, .int .i64 r, .int .i64 m] 26))
  by_cases hl : 200 < n
  · have hli : (200 : Int) < (n : Int) := by omega
    clear hr
    go_enter Try.func4, Try.ntmps4
    go_wp2_with fail
    refine (CK.out _).mono ?_
    rintro e w1 ⟨rfl, hb1⟩
    have HB1 := Lib.hid (HB.out.trans (hb1.mono HB.out.size))
    clear hb1
    go_wp2
    go_ret
    exact ⟨rfl, HB1.out⟩
  · have hli : ¬ (200 : Int) < (n : Int) := by omega
    cases hmay : mayO b u r m with
    | false =>
      rw [hmay] at CM
      clear hmay hr
      go_enter Try.func4, Try.ntmps4
      go_wp2_with fail
      refine (CM.out _).mono ?_
      rintro e w2 ⟨rfl, hb2⟩
      have HB2 := Lib.hid (HB.out.trans (hb2.mono HB.out.size))
      clear hb2
      go_wp2_with fail
      refine (CK.out _).mono ?_
      rintro e w3 ⟨rfl, hb3⟩
      have HB3 := Lib.hid (HB2.out.trans (hb3.mono HB2.out.size))
      clear hb3
      go_wp2
      go_ret
      exact ⟨rfl, HB3.out⟩
    | true =>
      rw [hmay] at CM
      obtain ⟨b', u', r', m', rfl, rfl, rfl, rfl, hb1, hb2, hu, hr10, hm6⟩ := mayO_nat hmay
      have C1 := Lib.hid (fun w (hr : Rd w w.heap.size A (bvs l)) => blkGet_any A n c l w hr hn hnc (by omega) (b := b') (wd := (u' : Int)) (rc := (r' : Int)) (md := (m' : Int)) hb2)
      have C2 := Lib.hid (fun w (hr : Rd w w.heap.size A (bvs l)) => refBGet_any A n c l w hr hn hnc (by omega) b' hb2)
      unfold BGetOut blkC at C1 C2
      obtain ⟨⟨⟨q0, q1, q2, q3, q4⟩, k, er⟩, hq⟩ : ∃ q, q = getB l b' := ⟨_, rfl⟩
      rw [← hq] at C1 C2
      have HR := Lib.hid hr
      clear hmay hb1 hu hr10 hm6 hq hr
      go_enter Try.func4, Try.ntmps4
      go_wp2_with fail
      refine (CM.out _).mono ?_
      rintro e w2 ⟨rfl, hbw⟩
      have HB2 := Lib.hid (HB.out.trans (hbw.mono HB.out.size))
      have HO2 := Lib.hid (HO.out.grow hbw)
      have HR2 := Lib.hid ((HR.out.below HB2.out).more HB2.out.size)
      clear hbw HB HO CM
      have o0 := HO2.out.cell 0
      have o1 := HO2.out.cell 1
      have o2 := HO2.out.cell 2
      have o3 := HO2.out.cell 3
      simp only [List.getElem?_cons_zero, List.getElem?_cons_succ] at o0 o1 o2 o3
      go_wp2_with fail
      refine (C1.out w2 HR2.out).mono ?_
      rintro e w3 ⟨rfl, hbw⟩
      have HB3 := Lib.hid (HB2.out.trans (hbw.mono HB2.out.size))
      have HO3 := Lib.hid (HO2.out.grow hbw)
      clear hbw HB2 HO2 HR2 o0 o1 o2 o3 C1
      obtain ⟨w4, hw4⟩ : ∃ w4 : World, w4 = w3.alloc (.cells #[.int .i64 (q0 : Int), .int .i64 (q1 : Int), .int .i64 (q2 : Int), .int .i64 (q3 : Int), .int .u32 (q4 : Int), .int .i64 0, .int .i64 0] 24) := ⟨_, rfl⟩
      have hb4 : Below w3.heap.size w3 w4 := by rw [hw4]; exact (Below.refl _ _).alloc (Nat.le_refl _) _
      have HH4 := Lib.hid (show Blk w4 w3.heap.size 24 [.int .i64 (q0 : Int), .int .i64 (q1 : Int), .int .i64 (q2 : Int), .int .i64 (q3 : Int), .int .u32 (q4 : Int), .int .i64 0, .int .i64 0] by rw [hw4]; exact blk_new w3 _ _ rfl)
      have HB4 := Lib.hid (HB3.out.trans (hb4.mono HB3.out.size))
      have HO4 := Lib.hid (HO3.out.grow hb4)
      have HR4 := Lib.hid ((HR.out.below HB4.out).more HB4.out.size)
      have HW4 := Lib.hid hw4
      clear hb4 HB3 HO3 hw4
      have o0 := HO4.out.cell 0
      have o1 := HO4.out.cell 1
      have o2 := HO4.out.cell 2
      have o3 := HO4.out.cell 3
      simp only [List.getElem?_cons_zero, List.getElem?_cons_succ] at o0 o1 o2 o3
      have hlt := HO4.out.lt
      rw [HW4.out] at o0 o1 o2 o3 hlt
      go_wp2_with fail
      rw [← HW4.out]
      refine (C2.out w4 HR4.out).mono ?_
      rintro e w5 ⟨rfl, hbw⟩
      have HB5 := Lib.hid (HB4.out.trans (hbw.mono HB4.out.size))
      have HH5 := Lib.hid (HH4.out.grow hbw)
      clear hbw HB4 HO4 HH4 HR4 o0 o1 o2 o3 hlt C2
      have h0 := HH5.out.cell 0
      have h1 := HH5.out.cell 1
      have h2 := HH5.out.cell 2
      have h3 := HH5.out.cell 3
      have h4 := HH5.out.cell 4
      have h5 := HH5.out.cell 5
      have h6 := HH5.out.cell 6
      simp only [List.getElem?_cons_zero, List.getElem?_cons_succ] at h0 h1 h2 h3 h4 h5 h6
      have hlt := HH5.out.lt
      go_wp2_with fail
      refine (CK.out _).mono ?_
      rintro e w6 ⟨rfl, hbw⟩
      have HB6 := Lib.hid ((HB5.out.alloc HB5.out.size (.cells #[.int .i64 (q0 : Int), .int .i64 (q1 : Int), .int .i64 (q2 : Int), .int .i64 (q3 : Int), .int .u32 (q4 : Int), .int .i64 0, .int .i64 0] 24)).trans (hbw.mono (by have := HB5.out.size; simp; omega)))
      clear hbw
      go_wp2
      go_ret
      exact ⟨rfl, HB6.out⟩
set_option maxRecDepth 100000 in
set_option maxHeartbeats 4000000 in
theorem blockEnds_law (t su : Int) (A : Option Addr) (n c : Nat) (l : List UInt8) (W : World) (ht : -9223372036854775808 ≤ t ∧ t ≤ 9223372036854775807) (hsu : 0 ≤ su ∧ su ≤ 4294967295) (hr : Rd W W.heap.size A (bvs l)) (hn : l.length = n) (hnc : n ≤ c) :
    Calls Try.prog 5 #[.int .i64 t, .int .u32 su, .slice A n c] W fun e w' => e = .returned (.bool true) ∧ Below W.heap.size W w' := by
  have CK := Lib.hid known30_any
  by_cases hl : 200 < n
  · have hli : (200 : Int) < (n : Int) := by omega
    clear hr
    go_enter Try.func5, Try.ntmps5
    go_wp2_with fail
    refine (CK.out _).mono ?_
    rintro e w1 ⟨rfl, hb1⟩
    go_wp2
    go_ret
    exact ⟨rfl, hb1⟩
  · have hli : ¬ (200 : Int) < (n : Int) := by omega
    obtain ⟨su, rfl⟩ := Int.eq_ofNat_of_zero_le hsu.1
    have hs : su < 4294967296 := by omega
    have C1 := Lib.hid (fun w (hr : Rd w w.heap.size A (bvs l)) => blkGetEnd_any A n c l w hr hn hnc (by omega))
    have C2 := Lib.hid (fun w (hr : Rd w w.heap.size A (bvs l)) => refGetEnd_any A n c l w hr hn hnc (by omega))
    have C3 := Lib.hid (fun w => blkPutEnd_any ht.2 hs w)
    have C4 := Lib.hid (fun w => refPutEnd_any ht.2 hs w)
    have hlen : t.toNat ≤ 1099511627776 → (endL t.toNat su).length ≤ 11 := fun h => endL_len h
    unfold EndOut at C1 C2
    obtain ⟨⟨q0, q1, q2, q3⟩, hq⟩ : ∃ q, q = endG l := ⟨_, rfl⟩
    rw [← hq] at C1 C2
    obtain ⟨L, hL⟩ : ∃ L, L = endL t.toNat su := ⟨_, rfl⟩
    rw [← hL] at C3 C4 hlen
    obtain ⟨k, hk⟩ : ∃ k, k = L.length := ⟨_, rfl⟩
    rw [← hk] at hlen
    have HK := Lib.hid hk
    have HR := Lib.hid hr
    have HLN := Lib.hid hlen
    clear hq hr hL hk hlen hsu ht
    go_enter Try.func5, Try.ntmps5
    go_wp2_with fail
    refine (C1.out W HR.out).mono ?_
    rintro e w1 ⟨rfl, hb1⟩
    have HB1 := Lib.hid hb1
    have HR1 := Lib.hid ((HR.out.below hb1).more hb1.size)
    clear hb1 C1
    go_wp2_with fail
    refine (C2.out w1 HR1.out).mono ?_
    rintro e w2 ⟨rfl, hb2⟩
    have HB2 := Lib.hid (HB1.out.trans (hb2.mono HB1.out.size))
    clear hb2 C2 HB1 HR1
    go_wp2_with fail
    refine (C3.out w2).mono ?_
    rintro e w3 ⟨v3, rfl, ho3, hb3⟩
    rw [← HK.out] at ho3
    obtain ⟨A3, c3, rfl, hc3, -, -⟩ := own_form ho3
    have HV3 := Lib.hid (show IsBytes L (.slice A3 k c3) w3 from IsBytes.of_own (l := L) (by rw [← HK.out]; exact ho3))
    have HB3 := Lib.hid (HB2.out.trans (hb3.mono HB2.out.size))
    clear hb3 ho3 C3 HB2
    by_cases ht : t > 1099511627776
    · have hti : (1099511627776 : Int) < t := ht
      go_wp2_with fail
      refine wp_region_grow [⟨37, [], .is (.int .i64 (q0 : Int))⟩,
        ⟨38, [], .is (.int .i64 (q0 : Int))⟩,
        ⟨39, [0, 1], .is (.bool true)⟩,
        ⟨40, [2], .is (.bool true)⟩,
        ⟨41, [3], .is (.int .u32 (q1 : Int))⟩,
        ⟨42, [3], .is (.int .u32 (q1 : Int))⟩,
        ⟨43, [4, 5, 3], .is (.bool true)⟩,
        ⟨44, [3, 6], .is (.bool true)⟩,
        ⟨45, [7], .is (.bool true)⟩,
        ⟨46, [8], .is (.int .i64 (q2 : Int))⟩,
        ⟨47, [8], .is (.int .i64 (q2 : Int))⟩,
        ⟨48, [9, 10, 8], .is (.bool true)⟩,
        ⟨49, [8, 11], .is (.bool true)⟩,
        ⟨50, [12], .is (.bool true)⟩,
        ⟨51, [13], .is (.int .i64 (q3 : Int))⟩,
        ⟨52, [13], .is (.int .i64 (q3 : Int))⟩,
        ⟨53, [14, 15, 13], .is (.bool true)⟩,
        ⟨54, [13, 16], .is (.bool true)⟩,
        ⟨55, [17], .is (.bool true)⟩,
        ⟨56, [18], .is (.slice A3 k c3)⟩,
        ⟨57, [19, 18], .is (.string ⟨(L).toArray⟩)⟩,
        ⟨58, [18], .is (.int .i64 t)⟩,
        ⟨59, [18], .is (.int .u32 (su : Int))⟩,
        ⟨60, [21, 22, 18], .bytes (L)⟩,
        ⟨61, [23, 18], .is (.string ⟨(L).toArray⟩)⟩,
        ⟨62, [20, 24, 18], .is (.bool true)⟩,
        ⟨63, [18, 25], .is (.bool true)⟩,
        ⟨64, [26], .is (.bool true)⟩,
        ⟨65, [27], .is (.int .i64 t)⟩,
        ⟨66, [28, 27], .is (.bool true)⟩,
        ⟨67, [29, 27], .is (.bool true)⟩,
        ⟨68, [30], .is undef⟩,
        ⟨69, [31, 30], .is undef⟩,
        ⟨70, [32, 30], .is undef⟩,
        ⟨71, [30, 33, 27], .is (.bool true)⟩,
        ⟨72, [27, 34], .is (.bool true)⟩,
        ⟨73, [35], .is (.bool true)⟩,
        ⟨74, [36], .is (.bool true)⟩,
        ⟨75, [36, 37], .is (.bool true)⟩,
        ⟨6, [38], .is (.bool true)⟩]
        [(7, .int .i64 (q0 : Int)), (11, .int .i64 (q0 : Int)), (8, .int .u32 (q1 : Int)), (12, .int .u32 (q1 : Int)), (9, .int .i64 (q2 : Int)), (13, .int .i64 (q2 : Int)), (10, .int .i64 (q3 : Int)), (14, .int .i64 (q3 : Int)), (15, .slice A3 k c3), (0, .int .i64 t), (1, .int .u32 (su : Int))] (by kernel_rfl) (by kernel_rfl) (by kernel_rfl) (by kernel_rfl) (by kernel_rfl) ⟨rfl, rfl, rfl, rfl, rfl, rfl, rfl, rfl, rfl, rfl, rfl, trivial⟩ ?_ ?_
      · repeat' (first | exact OblGAll.nil | refine OblGAll.cons ?_ ?_)
        all_goals (intro ev yi w' hB hc hf ho hn; simp only [OutsSay, NeedSay, rowAt, Fact.says, and_true] at ho hn)
        all_goals (try ((simp [OpSays, execOp, Region.wanted, Fact.says, boolOf, go_sem, ho, hn, hc, Below.refl, hti]; done)))
        · rw [if_pos (by simp [Region.wanted, hn, boolOf])]
          exact says_str rfl Try.underlying32 Try.underlying5 Try.underlying9 (by rw [hn.1]; exact HV3.out.grow hB) ⟨rfl, Below.refl _ _⟩
        · rw [if_pos (by simp [Region.wanted, hn, boolOf])]
          exact says_call Try.call18 (vs := #[.int .i64 t, .int .u32 (su : Int)]) rfl hf (by simp [hn]) ((C4.out w').mono fun _ _ h => h.says)
        · rw [if_pos (by simp [Region.wanted, hn, boolOf])]
          exact says_str rfl Try.underlying32 Try.underlying5 Try.underlying9 hn.1 ⟨rfl, Below.refl _ _⟩
        · rw [if_pos (by simp [Region.wanted, hn, boolOf])]
          exact says_call Try.call8 (vs := #[]) rfl hf (by simp) ((CK.out w').mono fun _ _ h => ⟨_, h.1, rfl, h.2⟩)
      · intro X w4 hb4 hx
        have hlast : X 39 = .bool true := hx 39 (by decide)
        clear hx
        have HL := Lib.hid hlast
        clear hlast
        simp only [layAll, List.setIfInBounds_toArray, List.set_cons_succ, List.set_cons_zero]
        go_wp2
        go_ret
        exact ⟨congrArg Ending.returned HL.out, HB3.out.trans (hb4.mono HB3.out.size)⟩
    · have hti : ¬ (1099511627776 : Int) < t := ht
      have hk11 : (k : Int) ≤ 11 := by have := HLN.out (by omega); omega
      go_wp2_with fail
      refine wp_region_grow [⟨37, [], .is (.int .i64 (q0 : Int))⟩,
        ⟨38, [], .is (.int .i64 (q0 : Int))⟩,
        ⟨39, [0, 1], .is (.bool true)⟩,
        ⟨40, [2], .is (.bool true)⟩,
        ⟨41, [3], .is (.int .u32 (q1 : Int))⟩,
        ⟨42, [3], .is (.int .u32 (q1 : Int))⟩,
        ⟨43, [4, 5, 3], .is (.bool true)⟩,
        ⟨44, [3, 6], .is (.bool true)⟩,
        ⟨45, [7], .is (.bool true)⟩,
        ⟨46, [8], .is (.int .i64 (q2 : Int))⟩,
        ⟨47, [8], .is (.int .i64 (q2 : Int))⟩,
        ⟨48, [9, 10, 8], .is (.bool true)⟩,
        ⟨49, [8, 11], .is (.bool true)⟩,
        ⟨50, [12], .is (.bool true)⟩,
        ⟨51, [13], .is (.int .i64 (q3 : Int))⟩,
        ⟨52, [13], .is (.int .i64 (q3 : Int))⟩,
        ⟨53, [14, 15, 13], .is (.bool true)⟩,
        ⟨54, [13, 16], .is (.bool true)⟩,
        ⟨55, [17], .is (.bool true)⟩,
        ⟨56, [18], .is (.slice A3 k c3)⟩,
        ⟨57, [19, 18], .is (.string ⟨(L).toArray⟩)⟩,
        ⟨58, [18], .is (.int .i64 t)⟩,
        ⟨59, [18], .is (.int .u32 (su : Int))⟩,
        ⟨60, [21, 22, 18], .bytes (L)⟩,
        ⟨61, [23, 18], .is (.string ⟨(L).toArray⟩)⟩,
        ⟨62, [20, 24, 18], .is (.bool true)⟩,
        ⟨63, [18, 25], .is (.bool true)⟩,
        ⟨64, [26], .is (.bool true)⟩,
        ⟨65, [27], .is (.int .i64 t)⟩,
        ⟨66, [28, 27], .is (.bool false)⟩,
        ⟨67, [29, 27], .is (.bool false)⟩,
        ⟨68, [30], .is (.slice A3 k c3)⟩,
        ⟨69, [31, 30], .is (.int .i64 (k : Int))⟩,
        ⟨70, [32, 30], .is (.bool true)⟩,
        ⟨71, [30, 33, 27], .is (.bool true)⟩,
        ⟨72, [27, 34], .is (.bool true)⟩,
        ⟨73, [35], .is (.bool true)⟩,
        ⟨74, [36], .is (.bool true)⟩,
        ⟨75, [36, 37], .is (.bool true)⟩,
        ⟨6, [38], .is (.bool true)⟩]
        [(7, .int .i64 (q0 : Int)), (11, .int .i64 (q0 : Int)), (8, .int .u32 (q1 : Int)), (12, .int .u32 (q1 : Int)), (9, .int .i64 (q2 : Int)), (13, .int .i64 (q2 : Int)), (10, .int .i64 (q3 : Int)), (14, .int .i64 (q3 : Int)), (15, .slice A3 k c3), (0, .int .i64 t), (1, .int .u32 (su : Int))] (by kernel_rfl) (by kernel_rfl) (by kernel_rfl) (by kernel_rfl) (by kernel_rfl) ⟨rfl, rfl, rfl, rfl, rfl, rfl, rfl, rfl, rfl, rfl, rfl, trivial⟩ ?_ ?_
      · repeat' (first | exact OblGAll.nil | refine OblGAll.cons ?_ ?_)
        all_goals (intro ev yi w' hB hc hf ho hn; simp only [OutsSay, NeedSay, rowAt, Fact.says, and_true] at ho hn)
        all_goals (try ((simp [OpSays, execOp, Region.wanted, Fact.says, boolOf, go_sem, ho, hn, hc, Below.refl, hti, hk11]; done)))
        · rw [if_pos (by simp [Region.wanted, hn, boolOf])]
          exact says_str rfl Try.underlying32 Try.underlying5 Try.underlying9 (by rw [hn.1]; exact HV3.out.grow hB) ⟨rfl, Below.refl _ _⟩
        · rw [if_pos (by simp [Region.wanted, hn, boolOf])]
          exact says_call Try.call18 (vs := #[.int .i64 t, .int .u32 (su : Int)]) rfl hf (by simp [hn]) ((C4.out w').mono fun _ _ h => h.says)
        · rw [if_pos (by simp [Region.wanted, hn, boolOf])]
          exact says_str rfl Try.underlying32 Try.underlying5 Try.underlying9 hn.1 ⟨rfl, Below.refl _ _⟩
        · rw [if_pos (by simp [Region.wanted, hn, boolOf])]
          exact says_call Try.call8 (vs := #[]) rfl hf (by simp) ((CK.out w').mono fun _ _ h => ⟨_, h.1, rfl, h.2⟩)
      · intro X w4 hb4 hx
        have hlast : X 39 = .bool true := hx 39 (by decide)
        clear hx
        have HL := Lib.hid hlast
        clear hlast
        simp only [layAll, List.setIfInBounds_toArray, List.set_cons_succ, List.set_cons_zero]
        go_wp2
        go_ret
        exact ⟨congrArg Ending.returned HL.out, HB3.out.trans (hb4.mono HB3.out.size)⟩
end Go.Proofs.Ytcjjlkfenlmmlaa
