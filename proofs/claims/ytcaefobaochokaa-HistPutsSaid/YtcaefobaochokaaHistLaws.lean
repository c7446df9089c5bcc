/- Layer 16: the fixed calls; the laws HistPuts and HistGets. -/
import Derived.Test.YtcaefobaochokaaHistRef
import Derived.Test.YtcaefobaochokaaHistGot
import Derived.Test.YtcaefobaochokaaHistRGet
import Derived.Test.YtcaefobaochokaaNormKnown
namespace Go.Proofs.Ytcaefobaochokaa
open Go.RowKit Go.Sort Go.Shelf

theorem hPutF_zeros (l : List Int) : ∀ (k z : Nat), hPutF z (zerosI k ++ l) = hPutF (z + k) l
  | 0, z => by simp [zerosI]
  | k + 1, z => by
    have h : zerosI (k + 1) ++ l = 0 :: (zerosI k ++ l) := by simp [zerosI, List.replicate_succ]
    rw [h, hPutF_zero, hPutF_zeros l k (z + 1), show z + 1 + k = z + (k + 1) by omega]
def kRow : List Int := zerosI 255 ++ [4]
theorem kRow_len : kRow.length = 256 := by decide +kernel
theorem kRow_set : (List.replicate 256 (0 : Int)).set 255 4 = kRow := by decide +kernel
theorem kRow_may : HistMay kRow := ⟨kRow_len, fun x hx => by
  rcases List.mem_append.1 hx with h | h
  · have := (List.mem_replicate.1 h).2; omega
  · have := List.mem_singleton.1 h; omega⟩
theorem kRow_put : hPut kRow = [255, 1, 3, 0] := by
  unfold hPut kRow
  rw [hPutF_zeros, hPutF_some _ _ (by decide), hPutF_nil]
  have h1 : lput (0 + 255) = [255, 1] := by rw [lput_big (by decide), lput_small (by decide)]; rfl
  have h2 : lput ((4 : Int) - 1).toNat = [3] := by rw [lput_small (by decide)]; rfl
  have h3 : lput 0 = [0] := by rw [lput_small (by decide)]; rfl
  rw [h1, h2, h3]
  rfl
theorem kRow_got : hGot ((4 : Nat) : Int) [255, 1, 3, 0, 9] = some (kRow, 4) := by
  have h := hGet_put kRow_may.1 kRow_may.2 [9]
  rw [kRow_put] at h
  have h2 : hG [] [255, 1, 3, 0, 9] 0 = some (kRow, 4) := h
  unfold hGot
  rw [h2]
  simp only [filt, Option.bind_some]
  rw [if_pos (by decide +kernel)]
set_option maxHeartbeats 1000000 in
set_option maxRecDepth 100000 in
theorem histKnown_any (w : World) : Calls Try.prog 6 #[] w (Yes w) := by
  obtain ⟨i0, hi, hz0, hz1, hz2⟩ := info_parts info_int12
  go_enter Try.func6, Try.ntmps6
  go_wp2_with (at_make; go_must (refine wpList_mk rfl (.const (.int .i64 256)) (.const (.int .i64 256)) 22 rfl w.heap.size 3 i0 (.int .i64 0) 8 Try.underlying22 hi hz0 rfl hz1 hz2 .i64 .i64 _ _ rfl rfl 256 256 rfl rfl (Nat.le_refl _) (by omega) (by simp only [maxLen]; omega) (Nat.le_refl _) ?_; intro w1 hg1 hown1 hgr1; have hb : Below w.heap.size w w1 := (Below.refl _ _).grown hgr1 (Nat.le_refl _) (by simp); have hk1 : Blk w1 w.heap.size 3 (zvs (List.replicate 256 0)) := by { unfold Blk; rw [hg1]; simp [zvs] }; have hf := hk1.frozen 255; have hc0 : w1.cell? ⟨w.heap.size, 255, none⟩ = some (.int .i64 0) := by { rw [hk1.cell 255]; rfl }))
  have hset := hk1.set_ 255 (.int .i64 4)
  rw [zvs_set, kRow_set] at hset
  have hb1 := hb.setCell (p := ⟨w.heap.size, 255, none⟩) (Nat.le_refl _) (.int .i64 4)
  have C1 := Lib.hid (histPut_ok (m := 256) (Rd.of_blk hset) kRow_len kRow_may (Nat.le_refl _))
  rw [kRow_put] at C1
  have HSET := Lib.hid hset
  have HB1 := Lib.hid hb1
  clear hset hb1 hb hk1 hf hc0 hg1 hown1 hgr1
  refine C1.out.mono ?_
  rintro _ w2 ⟨v, rfl, hown, hb2⟩
  obtain ⟨Av, cv, rfl, -, -, -⟩ := own_form hown
  have HSET2 := Lib.hid (HSET.out.grow hb2)
  have HB2 := Lib.hid (HB1.out.trans (hb2.mono HB1.out.size))
  have hb3 := (Below.refl w2.heap.size w2).alloc (Nat.le_refl _) (.cells #[.int .u8 255, .int .u8 1, .int .u8 3, .int .u8 0, .int .u8 9] 5)
  have C2 := Lib.hid (histGet_any (w := w2.alloc (.cells #[.int .u8 255, .int .u8 1, .int .u8 3, .int .u8 0, .int .u8 9] 5)) (l := [255, 1, 3, 0, 9]) (n := 5) (m := 5) 2 4 (by decide) (by decide) rfl (Rd.new _ _ _) rfl (by decide) (by decide))
  rw [kRow_got] at C2
  have HO2 := Lib.hid (own_kept hown hb3)
  have HSET3 := Lib.hid (HSET2.out.grow hb3)
  have HB3 := Lib.hid (HB2.out.trans (hb3.mono HB2.out.size))
  clear hown hb2 hb3 C1 HSET HB1 HSET2 HB2
  go_wp2_with fail
  refine C2.out.mono ?_
  rintro _ w3 ⟨hb4, -, S, rfl, hS⟩
  have HS := Lib.hid hS
  have HO3 := Lib.hid (own_kept HO2.out hb4)
  have HSET4 := Lib.hid (HSET3.out.grow hb4)
  have HB4 := Lib.hid (HB3.out.trans (hb4.mono HB3.out.size))
  clear hS hb4 C2 HO2 HSET3 HB3
  have HX := Lib.hid (IsBytes.of_own HO3.out)
  have hb5 := (Below.refl w3.heap.size w3).alloc (Nat.le_refl _) (.cells #[.int .u8 255, .int .u8 1, .int .u8 3, .int .u8 0] 5)
  have HY := Lib.hid (show IsBytes [255, 1, 3, 0] (.slice (some ⟨w3.heap.size, 0, none⟩) 4 4) (w3.alloc (.cells #[.int .u8 255, .int .u8 1, .int .u8 3, .int .u8 0] 5)) from ⟨_, 4, rfl, by decide, Rd.new w3 _ _⟩)
  have C3 := Lib.hid (rnSame_yes (m := 256) (m' := 256) (Rd.of_blk (HS.out.grow hb5)) (Rd.of_blk (HSET4.out.grow hb5)) kRow_len (by decide))
  have HB5 := Lib.hid (HB4.out.trans (hb5.mono HB4.out.size))
  clear hb5 HS HSET4 HB4 HO3
  go_wp2_with (first
    | ((with_reducible show wpList _ _ _ (({ dst := some 25, op := _, type := _, pos := _, after := _, guard := _ } : Oper) :: _) _ _); go_must (refine wpList_strW rfl 24 9 5 (.tmp 24) rfl Try.underlying24 Try.underlying5 Try.underlying9 _ HX.out ?_))
    | ((with_reducible show wpList _ _ _ (({ dst := some 27, op := _, type := _, pos := _, after := _, guard := _ } : Oper) :: _) _ _); go_must (refine wpList_strW rfl 24 9 5 (.tmp 26) rfl Try.underlying24 Try.underlying5 Try.underlying9 _ HY.out ?_)))
  refine C3.out.mono ?_
  rintro _ w4 ⟨rfl, hb6⟩
  have HB6 := Lib.hid (HB5.out.trans (hb6.mono HB5.out.size))
  clear hb6 C3
  go_wp2
  go_ret
  exact ⟨rfl, HB6.out⟩

theorem bytes_of_newB {w w' : World} {l : List UInt8} {e : Ending} (h : NewB w l e w') : ∃ v, e = .returned v ∧ (Fact.bytes l).says v w' ∧ Below w.heap.size w w' := by
  obtain ⟨v, he, hown, hb⟩ := h
  exact ⟨v, he, IsBytes.of_own hown, hb⟩
set_option maxHeartbeats 2000000 in
set_option maxRecDepth 100000 in
theorem histPuts_law (A : Option Addr) (L m : Nat) (l : List Int) (w : World) (hr : Rd w w.heap.size A (zvs l)) (hL : l.length = L) (hL63 : L ≤ 9223372036854775807) (hLm : L ≤ m) :
    Calls Try.prog 3 #[.slice A L m] w (Yes w) := by
  have CK := Lib.hid histKnown_any
  by_cases h300 : 300 < L
  · have h2 : (300 : Int) < (L : Int) := by omega
    clear hr hL
    go_enter Try.func3, Try.ntmps3
    go_wp2_with fail
    refine (CK.out _).mono ?_
    rintro e w' ⟨rfl, hb⟩
    go_wp2
    go_ret
    exact ⟨rfl, hb⟩
  · have h2 : ¬ ((300 : Int) < (L : Int)) := by omega
    have HR := Lib.hid hr
    have HL := Lib.hid hL
    by_cases hmay : mayB l = true
    · have hM := mayB_yes hmay
      have C1 := Lib.hid (histPut_ok hr hL hM hLm)
      have C2 := Lib.hid (fun (W : World) (h : Rd W W.heap.size A (zvs l)) => rhMay_any (w := W) (m := m) h HL.out (by omega))
      rw [hmay] at C2
      have C3 := Lib.hid (fun (W : World) (h : Rd W W.heap.size A (zvs l)) => rhPut_any (w := W) (m := m) h HL.out (by omega) hM.2)
      obtain ⟨Q, hQ⟩ : ∃ Q, Q = hPut l := ⟨_, rfl⟩
      rw [← hQ] at C1 C3
      clear hr hL hmay hM hQ
      go_enter Try.func3, Try.ntmps3
      go_wp2_with fail
      refine C1.out.mono ?_
      rintro _ w1 ⟨v, rfl, hown, hb⟩
      obtain ⟨Av, cv, rfl, -, -, -⟩ := own_form hown
      have HR1 := Lib.hid ((HR.out.below hb).more hb.size)
      have HV := Lib.hid (IsBytes.of_own hown)
      have HB := Lib.hid hb
      clear hown hb C1 HR
      go_wp2_with fail
      refine (C2.out w1 HR1.out).mono ?_
      rintro _ w' ⟨rfl, hw⟩
      obtain rfl : _ = w' := hw.symm
      clear C2
      go_wp2
      refine wp_region_grow [⟨27, [], .is (.slice Av Q.length cv)⟩,
    ⟨28, [0], .is (.string ⟨Q.toArray⟩)⟩,
    ⟨29, [], .is (.slice A L m)⟩,
    ⟨30, [2], .bytes Q⟩,
    ⟨31, [3], .is (.string ⟨Q.toArray⟩)⟩,
    ⟨32, [1, 4], .is (.bool true)⟩,
    ⟨33, [5], .is (.bool true)⟩,
    ⟨34, [6], .is (.int .i64 0)⟩,
    ⟨35, [7, 6], .is (.bool true)⟩,
    ⟨36, [6, 8], .is (.bool true)⟩,
    ⟨37, [9], .is (.bool true)⟩,
    ⟨38, [10], .is (.bool true)⟩,
    ⟨39, [10, 11], .is (.bool true)⟩,
    ⟨2, [12], .is (.bool true)⟩]
        [(3, .slice Av Q.length cv), (0, .slice A L m), (4, .int .i64 0)] (by kernel_rfl) (by kernel_rfl) (by kernel_rfl) (by kernel_rfl) (by kernel_rfl) ⟨rfl, rfl, rfl, trivial⟩ ?_ ?_
      · repeat' (first | exact OblGAll.nil | refine OblGAll.cons ?_ ?_)
        all_goals (intro ev yi w' hB hc hf ho hn; simp only [OutsSay, NeedSay, rowAt, Fact.says, and_true] at ho hn)
        all_goals (try ((simp [OpSays, execOp, Region.wanted, Fact.says, boolOf, go_sem, ho, hn, hc, Below.refl]; done)))
        · rw [if_pos (by simp [Region.wanted])]
          exact says_str rfl Try.underlying24 Try.underlying5 Try.underlying9 (by rw [hn.1]; exact HV.out.grow hB) ⟨rfl, Below.refl _ _⟩
        · rw [if_pos (by simp [Region.wanted])]
          exact says_call Try.call9 (vs := #[.slice A L m]) rfl hf (by simp [hn]) ((C3.out w' ((HR1.out.below hB).more hB.size)).mono fun _ _ => bytes_of_newB)
        · rw [if_pos (by simp [Region.wanted])]
          exact says_str rfl Try.underlying24 Try.underlying5 Try.underlying9 hn.1 ⟨rfl, Below.refl _ _⟩
        · rw [if_pos (by simp [Region.wanted, hn, boolOf])]
          exact says_call Try.call6 (vs := #[]) rfl hf (by simp) ((CK.out w').mono fun _ _ h => ⟨_, h.1, rfl, h.2⟩)
      · intro X w4 hb4 hx
        have hlast : X 13 = .bool true := hx 13 (by decide)
        clear hx
        have HL := Lib.hid hlast
        clear hlast
        simp only [layAll, List.setIfInBounds_toArray, List.set_cons_succ, List.set_cons_zero]
        go_wp2
        go_ret
        exact ⟨congrArg Ending.returned HL.out, HB.out.trans (hb4.mono HB.out.size)⟩
    · have hmf : mayB l = false := by cases h : mayB l with
        | true => exact absurd h hmay
        | false => rfl
      have C1 := Lib.hid (histPut_not (m := m) hr hL (mayB_no hmf))
      have C2 := Lib.hid (rhMay_any (m := m) hr hL (by omega))
      rw [hmf] at C2
      clear hr hL hmay hmf HR
      go_enter Try.func3, Try.ntmps3
      go_wp2_with fail
      refine C1.out.mono ?_
      rintro _ w' ⟨rfl, hw⟩
      obtain rfl : _ = w' := hw.symm
      go_wp2_with fail
      refine C2.out.mono ?_
      rintro _ w' ⟨rfl, hw⟩
      obtain rfl : _ = w' := hw.symm
      go_wp2_with fail
      refine (CK.out _).mono ?_
      rintro _ w2 ⟨rfl, hb2⟩
      go_wp2
      go_ret
      exact ⟨rfl, hb2⟩

set_option maxHeartbeats 2000000 in
set_option maxRecDepth 100000 in
theorem histGets_law (bits : Int) (A : Option Addr) (L m : Nat) (l : List UInt8) (w : World) (hr : Rd w w.heap.size A (bvs l)) (hL : l.length = L) (hL63 : L ≤ 9223372036854775807) (hLm : L ≤ m) :
    Calls Try.prog 4 #[.slice A L m, .int .i64 bits] w (Yes w) := by
  have CK := Lib.hid histKnown_any
  by_cases h600 : 600 < L
  · have h2 : (600 : Int) < (L : Int) := by omega
    clear hr hL
    go_enter Try.func4, Try.ntmps4
    go_wp2_with fail
    refine (CK.out _).mono ?_
    rintro e w' ⟨rfl, hb⟩
    go_wp2
    go_ret
    exact ⟨rfl, hb⟩
  · have h2 : ¬ ((600 : Int) < (L : Int)) := by omega
    have HR := Lib.hid hr
    have HL := Lib.hid hL
    by_cases hbits : bits < 1 ∨ 16 < bits
    · have C1 := Lib.hid (histGet_arg (w := w) bits hbits (.slice A L m))
      have C2 := Lib.hid (rhGet_arg (w := w) bits hbits (.slice A L m))
      clear hr hL hbits HR HL
      go_enter Try.func4, Try.ntmps4
      go_wp2_with fail
      refine C1.out.mono ?_
      rintro _ w' ⟨rfl, hw⟩
      obtain rfl : _ = w' := hw.symm
      go_wp2_with fail
      refine C2.out.mono ?_
      rintro _ w' ⟨rfl, hw⟩
      obtain rfl : _ = w' := hw.symm
      clear C1 C2
      go_wp2_with fail
      refine (rnSame_yes (c := []) (Rd.nil_ _ 0 _) (Rd.nil_ _ 0 _) rfl (by decide)).mono ?_
      rintro _ w2 ⟨rfl, hb2⟩
      have HB2 := Lib.hid hb2
      clear hb2
      go_wp2_with fail
      refine (CK.out _).mono ?_
      rintro _ w3 ⟨rfl, hb3⟩
      have HB3 := Lib.hid (HB2.out.trans (hb3.mono HB2.out.size))
      clear hb3
      go_wp2
      go_ret
      exact ⟨rfl, HB3.out⟩
    · obtain ⟨b, rfl⟩ := Int.eq_ofNat_of_zero_le (show 0 ≤ bits by omega)
      have C1 := Lib.hid (histGet_any b (2 ^ b) (by omega) (by omega) rfl hr hL hLm (by omega))
      have C2 := Lib.hid (fun (W : World) (h : Rd W W.heap.size A (bvs l)) => rhGet_any (w := W) b (2 ^ b) (by omega) (by omega) rfl h HL.out hLm (by omega))
      obtain ⟨R, hR⟩ : ∃ R, R = hGot ((2 ^ b : Nat) : Int) l := ⟨_, rfl⟩
      rw [← hR] at C1 C2
      clear hr hL hbits hR
      cases R with
      | none =>
        go_enter Try.func4, Try.ntmps4
        go_wp2_with fail
        refine C1.out.mono ?_
        rintro _ w1 ⟨hb1, rfl⟩
        have HR1 := Lib.hid ((HR.out.below hb1).more hb1.size)
        have HB1 := Lib.hid hb1
        clear hb1 C1 HR
        go_wp2_with fail
        refine (C2.out w1 HR1.out).mono ?_
        rintro _ w2 ⟨hb2, rfl⟩
        have HB2 := Lib.hid (HB1.out.trans (hb2.mono HB1.out.size))
        clear hb2 C2 HR1 HB1
        go_wp2_with fail
        refine (rnSame_yes (c := []) (Rd.nil_ _ 0 _) (Rd.nil_ _ 0 _) rfl (by decide)).mono ?_
        rintro _ w3 ⟨rfl, hb3⟩
        have HB3 := Lib.hid (HB2.out.trans (hb3.mono HB2.out.size))
        clear hb3
        go_wp2_with fail
        refine (CK.out _).mono ?_
        rintro _ w4 ⟨rfl, hb4⟩
        have HB4 := Lib.hid (HB3.out.trans (hb4.mono HB3.out.size))
        clear hb4
        go_wp2
        go_ret
        exact ⟨rfl, HB4.out⟩
      | some r =>
        obtain ⟨F, k⟩ := r
        go_enter Try.func4, Try.ntmps4
        go_wp2_with fail
        refine C1.out.mono ?_
        rintro _ w1 ⟨hb1, hF, S, rfl, hS⟩
        have HR1 := Lib.hid ((HR.out.below hb1).more hb1.size)
        have HB1 := Lib.hid hb1
        have HS1 := Lib.hid hS
        have HF := Lib.hid hF
        clear hb1 C1 HR hS hF
        go_wp2_with fail
        refine (C2.out w1 HR1.out).mono ?_
        rintro _ w2 ⟨hb2, -, v, rfl, hown2⟩
        obtain ⟨A2, c2, rfl, -, -, -⟩ := own_form hown2
        have HB2 := Lib.hid (HB1.out.trans (hb2.mono HB1.out.size))
        have C3 := Lib.hid (rnSame_yes (m := 256) (m' := c2) (Rd.of_blk (HS1.out.grow hb2)) (Rd.of_own hown2) HF.out (by decide))
        clear hb2 hown2 C2 HR1 HB1 HS1
        go_wp2_with fail
        refine C3.out.mono ?_
        rintro _ w3 ⟨rfl, hb3⟩
        have HB3 := Lib.hid (HB2.out.trans (hb3.mono HB2.out.size))
        clear hb3 C3
        go_wp2_with fail
        refine (CK.out _).mono ?_
        rintro _ w4 ⟨rfl, hb4⟩
        have HB4 := Lib.hid (HB3.out.trans (hb4.mono HB3.out.size))
        clear hb4
        go_wp2
        go_ret
        exact ⟨rfl, HB4.out⟩
end Go.Proofs.Ytcaefobaochokaa
