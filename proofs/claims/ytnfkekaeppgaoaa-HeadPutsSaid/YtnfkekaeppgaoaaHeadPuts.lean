/- Layer 29: HeadPuts. -/
import Derived.Test.YtnfkekaeppgaoaaHeadLaws
namespace Go.Proofs.Ytnfkekaeppgaoaa
open Go.RowKit Go.Sort

theorem lput_4 {n : Nat} (h : n ≤ 16777216) : (lput n).length ≤ 4 := by
  rw [lput_len n (by omega)]
  have : Lib.bitLen n ≤ 25 := Lib.bitLenAux_le 64 n 25 (by omega)
  omega
set_option maxRecDepth 100000 in
set_option maxHeartbeats 2000000 in
theorem headPuts_law (b u r m : Int) (W : World) : Calls Try.prog 4 #[.agg #[.int .i64 b, .int .i64 u, .int .i64 r, .int .i64 m]] W fun e w' => e = .returned (.bool true) ∧ Below W.heap.size W w' := by
  have CK := Lib.hid known29_any
  have CM := Lib.hid (refMay_any b u r m)
  have hO := heap_alloc_new W (.cells #[.int .i64 b, .int .i64 u, .int .i64 r, .int .i64 m] 24)
  have HO := Lib.hid (show Blk (W.alloc (.cells #[.int .i64 b, .int .i64 u, .int .i64 r, .int .i64 m] 24)) W.heap.size 24 [.int .i64 b, .int .i64 u, .int .i64 r, .int .i64 m] from hO)
  have HB := Lib.hid ((Below.refl W.heap.size W).alloc (Nat.le_refl _) (.cells #[.int .i64 b, .int .i64 u, .int .i64 r, .int .i64 m] 24))
  clear hO
  cases hmay : mayO b u r m with
  | false =>
    have CP := Lib.hid (hdPut_no hmay)
    rw [hmay] at CM
    unfold optV at CM CP
    clear hmay
    go_enter Try.func4, Try.ntmps4
    go_wp2_with fail
    refine (CP.out _).mono ?_
    rintro e w1 ⟨rfl, hb1⟩
    have hO1 := HO.out.grow hb1
    have HB1 := Lib.hid (HB.out.trans (hb1.mono HB.out.size))
    have q0 := hO1.cell 0
    have q1 := hO1.cell 1
    have q2 := hO1.cell 2
    have q3 := hO1.cell 3
    simp only [List.getElem?_cons_zero, List.getElem?_cons_succ] at q0 q1 q2 q3
    clear hb1 hO1
    go_wp2_with fail
    refine (CM.out _).mono ?_
    rintro e w2 ⟨rfl, hb2⟩
    have HB2 := Lib.hid (HB1.out.trans (hb2.mono HB1.out.size))
    clear hb2 q0 q1 q2 q3
    go_wp2_with fail
    refine (CK.out _).mono ?_
    rintro e w3 ⟨rfl, hb3⟩
    have HB3 := Lib.hid (HB2.out.trans (hb3.mono HB2.out.size))
    clear hb3
    go_wp2
    go_ret
    exact ⟨rfl, HB3.out⟩
  | true =>
    rw [hmay] at CM
    obtain ⟨b', u', r', m', rfl, rfl, rfl, rfl, hb1, hb2, hu, hr10, hm6⟩ := mayO_nat hmay
    have hu8 : u' ≤ 8 := by rcases hu with h | h | h | h <;> omega
    have C1 := Lib.hid (fun w => hdPut_yes (b := b') (u := u') (r := r') (m := m') hb2 hu8 hr10 hm6 hmay w)
    have CP := Lib.hid (fun w => refHPut_any (b := b') (u := u') (r := r') (m := m') hb2 hu8 hr10 hm6 w)
    have hlen := headS_len b' u' r' m'
    have hl4 := lput_4 hb2
    unfold optV at CM C1 CP
    obtain ⟨L, hL⟩ : ∃ L, L = headS b' u' r' m' := ⟨_, rfl⟩
    rw [← hL] at C1 CP hlen
    obtain ⟨n, hn⟩ : ∃ n, n = L.length := ⟨_, rfl⟩
    have hn15 : (n : Int) ≤ 15 := by omega
    have HN := Lib.hid hn
    clear hmay hb1 hb2 hu hr10 hm6 hu8 hlen hl4 hL hn
    go_enter Try.func4, Try.ntmps4
    go_wp2_with fail
    refine (C1.out _).mono ?_
    rintro e w1 ⟨v1, rfl, hv1, hb1⟩
    obtain ⟨A1, c1, rfl, hc1, hr1⟩ := hv1
    rw [← HN.out]
    have HV := Lib.hid (show IsBytes L (.slice A1 n c1) w1 from ⟨A1, c1, by rw [HN.out], hc1, hr1⟩)
    have hO1 := HO.out.grow hb1
    have HO1 := Lib.hid hO1
    have HB1 := Lib.hid (HB.out.trans (hb1.mono HB.out.size))
    have q0 := hO1.cell 0
    have q1 := hO1.cell 1
    have q2 := hO1.cell 2
    have q3 := hO1.cell 3
    simp only [List.getElem?_cons_zero, List.getElem?_cons_succ] at q0 q1 q2 q3
    clear hb1 hO1 hc1 hr1
    go_wp2_with fail
    refine (CM.out _).mono ?_
    rintro e w2 ⟨rfl, hb2⟩
    have HB2 := Lib.hid (HB1.out.trans (hb2.mono HB1.out.size))
    have HO2 := Lib.hid (HO1.out.grow hb2)
    have HV2 := Lib.hid (HV.out.grow hb2)
    obtain ⟨G, hG⟩ : ∃ G, G = W.heap.size := ⟨_, rfl⟩
    rw [← hG] at HO2 ⊢
    clear hb2 q0 q1 q2 q3 hG
    go_wp2_with fail
    refine wp_region_grow [⟨23, [], .is (.slice A1 n c1)⟩,
      ⟨24, [0], .is (.string ⟨L.toArray⟩)⟩,
      ⟨25, [], .is (.agg #[.int .i64 (b' : Int), .int .i64 (u' : Int), .int .i64 (r' : Int), .int .i64 (m' : Int)])⟩,
      ⟨26, [2], .bytes L⟩,
      ⟨27, [3], .is (.string ⟨L.toArray⟩)⟩,
      ⟨28, [1, 4], .is (.bool true)⟩,
      ⟨29, [5], .is (.bool true)⟩,
      ⟨30, [6], .is (.int .i64 0)⟩,
      ⟨31, [7, 6], .is (.bool true)⟩,
      ⟨32, [6, 8], .is (.bool true)⟩,
      ⟨33, [9], .is (.bool true)⟩,
      ⟨34, [10], .is (.slice A1 n c1)⟩,
      ⟨35, [11, 10], .is (.int .i64 (n : Int))⟩,
      ⟨36, [12, 10], .is (.bool true)⟩,
      ⟨37, [10, 13], .is (.bool true)⟩,
      ⟨38, [14], .is (.bool true)⟩,
      ⟨39, [15], .is (.bool true)⟩,
      ⟨40, [15, 16], .is (.bool true)⟩,
      ⟨2, [17], .is (.bool true)⟩]
      [(3, .slice A1 n c1), (1, .pointer (some ⟨G, 0, none⟩)), (4, .int .i64 0)] (by kernel_rfl) (by kernel_rfl) (by kernel_rfl) (by kernel_rfl) (by kernel_rfl) ⟨rfl, rfl, rfl, trivial⟩ ?_ ?_
    · repeat' (first | exact OblGAll.nil | refine OblGAll.cons ?_ ?_)
      all_goals (intro ev yi w' hB hc hf ho hn; simp only [OutsSay, NeedSay, rowAt, Fact.says, and_true] at ho hn)
      all_goals (try ((simp [OpSays, execOp, Region.wanted, Fact.says, boolOf, go_sem, ho, hn, hc, Below.refl]; done)))
      · rw [if_pos (by simp [Region.wanted])]
        exact says_str rfl Try.underlying29 Try.underlying5 Try.underlying9 (by rw [hn.1]; exact HV2.out.grow hB) ⟨rfl, Below.refl _ _⟩
      · rw [if_pos (by simp [Region.wanted])]
        have q0 := (HO2.out.grow hB).cell 0
        have q1 := (HO2.out.grow hB).cell 1
        have q2 := (HO2.out.grow hB).cell 2
        have q3 := (HO2.out.grow hB).cell 3
        simp only [List.getElem?_cons_zero, List.getElem?_cons_succ] at q0 q1 q2 q3
        simp [OpSays, execOp, Fact.says, go_sem, ho, Below.refl, q0, q1, q2, q3]
      · rw [if_pos (by simp [Region.wanted])]
        exact says_call Try.call13 (vs := #[.agg #[.int .i64 (b' : Int), .int .i64 (u' : Int), .int .i64 (r' : Int), .int .i64 (m' : Int)]]) rfl hf (by simp [hn]) ((CP.out w').mono fun _ _ ⟨v, h1, h2, h3⟩ => ⟨v, h1, IsBytes.of_own h2, h3⟩)
      · rw [if_pos (by simp [Region.wanted])]
        exact says_str rfl Try.underlying29 Try.underlying5 Try.underlying9 hn.1 ⟨rfl, Below.refl _ _⟩
      · rw [if_pos (by simp [Region.wanted, hn, boolOf])]
        simp [OpSays, execOp, Fact.says, go_sem, hn, hc, Below.refl, hn15]
      · rw [if_pos (by simp [Region.wanted, hn, boolOf])]
        exact says_call Try.call12 (vs := #[]) rfl hf (by simp) ((CK.out w').mono fun _ _ h => ⟨_, h.1, rfl, h.2⟩)
    · intro X w4 hb4 hx
      have hlast : X 18 = .bool true := hx 18 (by decide)
      clear hx
      have HL := Lib.hid hlast
      clear hlast
      simp only [layAll, List.setIfInBounds_toArray, List.set_cons_succ, List.set_cons_zero]
      go_wp2
      go_ret
      exact ⟨congrArg Ending.returned HL.out, HB2.out.trans (hb4.mono HB2.out.size)⟩
end Go.Proofs.Ytnfkekaeppgaoaa
