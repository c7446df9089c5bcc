/- Layer 28: the program's Text. -/
import Derived.Test.YtnfkekaeppgaoaaDoorOptRd
import Derived.Test.YtnfkekaeppgaoaaDoorMdsNam
import Derived.Test.YtnfkekaeppgaoaaDoorItoaFn
namespace Go.Proofs.YtnfkekaeppgaoaaDoor
open Go.RowKit Go.Sort

set_option maxRecDepth 100000 in
theorem optPairS_any {k v : List UInt8} (hk : k.length ≤ 100) (hv : v.length ≤ 1000000000000) (W : World) : Calls Tryd.prog 16 #[.string (strA k), .string (strA v)] W fun e w' => e = .returned (.string (strA (k ++ [61] ++ v))) ∧ w' = W := by
  have r1 := strA_room (a := k) (b := [61]) (by simp only [List.length_singleton]; omega)
  have r2 := strA_room (a := k ++ [61]) (b := v) (by simp only [List.length_append, List.length_singleton]; omega)
  have a1 := strA_app k [61]
  have a2 := strA_app (k ++ [61]) v
  obtain ⟨K, hK⟩ : ∃ x, x = strA k := ⟨_, rfl⟩
  obtain ⟨V, hV⟩ : ∃ x, x = strA v := ⟨_, rfl⟩
  obtain ⟨A1, hA1⟩ : ∃ x, x = strA (k ++ [61]) := ⟨_, rfl⟩
  obtain ⟨A2, hA2⟩ : ∃ x, x = strA (k ++ [61] ++ v) := ⟨_, rfl⟩
  rw [strA_lit [61]] at r1 a1
  rw [← hK] at r1 a1
  rw [← hA1, ← hV] at r2
  rw [← hA1] at a1
  rw [← hA1, ← hV, ← hA2] at a2
  rw [← hK, ← hV, ← hA2]
  clear hK hV hA1 hA2
  go_enter Tryd.func16, Tryd.ntmps16
  go_wp2
  go_ret
  exact ⟨rfl, rfl⟩
set_option maxRecDepth 100000 in
set_option maxHeartbeats 1000000 in
theorem optText_no {b u r m : Int} (hmay : mayO b u r m = false) (W : World) : Calls Tryd.prog 7 #[optV b u r m] W fun e w' => e = .returned (.string (strA [])) ∧ Below W.heap.size W w' := by
  have CC := Lib.hid (optCheck_any b u r m)
  rw [show chkE b u r m = 10 by unfold chkE; rw [hmay]; rfl] at CC
  have HB := Lib.hid ((Below.refl W.heap.size W).alloc (Nat.le_refl _) (.cells #[.int .i64 b, .int .i64 u, .int .i64 r, .int .i64 m] 23))
  unfold optV at CC ⊢
  clear hmay
  go_enter Tryd.func7, Tryd.ntmps7
  go_wp2_with fail
  refine (CC.out _).mono ?_
  rintro e w1 ⟨rfl, hb1⟩
  have HB1 := Lib.hid (HB.out.trans (hb1.mono HB.out.size))
  clear hb1
  go_wp2
  go_ret
  exact ⟨rfl, HB1.out⟩
theorem textL_q (b u r m : Nat) : textL b u r m = (keyL 0 ++ digL b) ++ [32] ++ (keyL 1 ++ digL u) ++ [32] ++ (keyL 2 ++ digL r) ++ [32] ++ (keyL 3 ++ nmL m) := by
  unfold textL kB kW kR kM
  simp [keyL]
set_option maxRecDepth 100000 in
set_option maxHeartbeats 4000000 in
theorem optText_yes {b u r m : Nat} (hb : b ≤ 16777216) (hu : u ≤ 8) (hr : r ≤ 10) (hm : m ≤ 6) (hmay : mayO (b : Int) (u : Int) (r : Int) (m : Int) = true) {W : World} (ht : TabT W.heap.size W) : Calls Tryd.prog 7 #[optV (b : Int) (u : Int) (r : Int) (m : Int)] W fun e w' => e = .returned (.string (strA (textL b u r m))) ∧ Below W.heap.size W w' := by
  have CC := Lib.hid (optCheck_any (b : Int) (u : Int) (r : Int) (m : Int))
  rw [show chkE (b : Int) (u : Int) (r : Int) (m : Int) = 0 by unfold chkE; rw [hmay]; rfl] at CC
  have C1 := Lib.hid (fun w (h : TabT W.heap.size w) => itoa_any (n := b) (by omega) h)
  have C2 := Lib.hid (fun w (h : TabT W.heap.size w) => itoa_any (n := u) (by omega) h)
  have C3 := Lib.hid (fun w (h : TabT W.heap.size w) => itoa_any (n := r) (by omega) h)
  have C4 := Lib.hid (mdsName_any (m : Int))
  rw [show nameOf (m : Int) = strA (nmL m) by unfold nameOf; rw [if_pos (by omega), Int.toNat_natCast, nmL_A]] at C4
  have l1 := digL_len b
  have l2 := digL_len u
  have l3 := digL_len r
  have l4 := nmL_len hm
  have E1 := Lib.hid (fun w => optPairS_any (k := keyN 0) (v := digL b) (by decide) (by omega) w)
  have E2 := Lib.hid (fun w => optPairS_any (k := keyN 1) (v := digL u) (by decide) (by omega) w)
  have E3 := Lib.hid (fun w => optPairS_any (k := keyN 2) (v := digL r) (by decide) (by omega) w)
  have E4 := Lib.hid (fun w => optPairS_any (k := keyN 3) (v := nmL m) (by decide) (by omega) w)
  rw [← keyL_N] at E1 E2 E3 E4
  rw [textL_q]
  have s0 : (keyL 0 ++ digL b).length ≤ 100000000 := by rw [List.length_append]; simp only [keyL, List.length_cons, List.length_nil]; omega
  have s1 : (keyL 1 ++ digL u).length ≤ 100000000 := by rw [List.length_append]; simp only [keyL, List.length_cons, List.length_nil]; omega
  have s2 : (keyL 2 ++ digL r).length ≤ 100000000 := by rw [List.length_append]; simp only [keyL, List.length_cons, List.length_nil]; omega
  have s3 : (keyL 3 ++ nmL m).length ≤ 100000000 := by rw [List.length_append]; simp only [keyL, List.length_cons, List.length_nil]; omega
  obtain ⟨q0, hq0⟩ : ∃ x, x = keyL 0 ++ digL b := ⟨_, rfl⟩
  obtain ⟨q1, hq1⟩ : ∃ x, x = keyL 1 ++ digL u := ⟨_, rfl⟩
  obtain ⟨q2, hq2⟩ : ∃ x, x = keyL 2 ++ digL r := ⟨_, rfl⟩
  obtain ⟨q3, hq3⟩ : ∃ x, x = keyL 3 ++ nmL m := ⟨_, rfl⟩
  rw [← hq0] at s0 E1
  rw [← hq1] at s1 E2
  rw [← hq2] at s2 E3
  rw [← hq3] at s3 E4
  rw [← hq0, ← hq1, ← hq2, ← hq3]
  have r0 := strA_room (a := q0) (b := [32]) (by simp only [List.length_singleton]; omega)
  have a0 := strA_app (q0) [32]
  have r1 := strA_room (a := q0 ++ [32]) (b := q1) (by simp only [List.length_append, List.length_singleton]; omega)
  have a1 := strA_app (q0 ++ [32]) q1
  have r2 := strA_room (a := q0 ++ [32] ++ q1) (b := [32]) (by simp only [List.length_append, List.length_singleton]; omega)
  have a2 := strA_app (q0 ++ [32] ++ q1) [32]
  have r3 := strA_room (a := q0 ++ [32] ++ q1 ++ [32]) (b := q2) (by simp only [List.length_append, List.length_singleton]; omega)
  have a3 := strA_app (q0 ++ [32] ++ q1 ++ [32]) q2
  have r4 := strA_room (a := q0 ++ [32] ++ q1 ++ [32] ++ q2) (b := [32]) (by simp only [List.length_append, List.length_singleton]; omega)
  have a4 := strA_app (q0 ++ [32] ++ q1 ++ [32] ++ q2) [32]
  have r5 := strA_room (a := q0 ++ [32] ++ q1 ++ [32] ++ q2 ++ [32]) (b := q3) (by simp only [List.length_append, List.length_singleton]; omega)
  have a5 := strA_app (q0 ++ [32] ++ q1 ++ [32] ++ q2 ++ [32]) q3
  obtain ⟨A0, hA0⟩ : ∃ x, x = strA (q0) := ⟨_, rfl⟩
  obtain ⟨A1, hA1⟩ : ∃ x, x = strA (q0 ++ [32]) := ⟨_, rfl⟩
  obtain ⟨A2, hA2⟩ : ∃ x, x = strA (q0 ++ [32] ++ q1) := ⟨_, rfl⟩
  obtain ⟨A3, hA3⟩ : ∃ x, x = strA (q0 ++ [32] ++ q1 ++ [32]) := ⟨_, rfl⟩
  obtain ⟨A4, hA4⟩ : ∃ x, x = strA (q0 ++ [32] ++ q1 ++ [32] ++ q2) := ⟨_, rfl⟩
  obtain ⟨A5, hA5⟩ : ∃ x, x = strA (q0 ++ [32] ++ q1 ++ [32] ++ q2 ++ [32]) := ⟨_, rfl⟩
  obtain ⟨A6, hA6⟩ : ∃ x, x = strA (q0 ++ [32] ++ q1 ++ [32] ++ q2 ++ [32] ++ q3) := ⟨_, rfl⟩
  obtain ⟨P1, hP1⟩ : ∃ x, x = strA q1 := ⟨_, rfl⟩
  obtain ⟨P2, hP2⟩ : ∃ x, x = strA q2 := ⟨_, rfl⟩
  obtain ⟨P3, hP3⟩ : ∃ x, x = strA q3 := ⟨_, rfl⟩
  rw [← hA0, strA_lit [32]] at r0
  rw [← hA0, ← hA1, strA_lit [32]] at a0
  rw [← hA1, ← hP1] at r1
  rw [← hA1, ← hA2, ← hP1] at a1
  rw [← hA2, strA_lit [32]] at r2
  rw [← hA2, ← hA3, strA_lit [32]] at a2
  rw [← hA3, ← hP2] at r3
  rw [← hA3, ← hA4, ← hP2] at a3
  rw [← hA4, strA_lit [32]] at r4
  rw [← hA4, ← hA5, strA_lit [32]] at a4
  rw [← hA5, ← hP3] at r5
  rw [← hA5, ← hA6, ← hP3] at a5
  rw [← hA6]
  rw [← hA0] at E1
  rw [← hP1] at E2
  rw [← hP2] at E3
  rw [← hP3] at E4
  rw [show strA (keyN 0) = ⟨#[98, 108, 111, 99, 107]⟩ from rfl] at E1
  rw [show strA (keyN 1) = ⟨#[119, 105, 100, 116, 104]⟩ from rfl] at E2
  rw [show strA (keyN 2) = ⟨#[114, 101, 99, 105, 112, 101]⟩ from rfl] at E3
  rw [show strA (keyN 3) = ⟨#[109, 111, 100, 101]⟩ from rfl] at E4
  obtain ⟨D1, hD1⟩ : ∃ x, x = strA (digL b) := ⟨_, rfl⟩
  obtain ⟨D2, hD2⟩ : ∃ x, x = strA (digL u) := ⟨_, rfl⟩
  obtain ⟨D3, hD3⟩ : ∃ x, x = strA (digL r) := ⟨_, rfl⟩
  obtain ⟨D4, hD4⟩ : ∃ x, x = strA (nmL m) := ⟨_, rfl⟩
  rw [← hD1] at C1 E1
  rw [← hD2] at C2 E2
  rw [← hD3] at C3 E3
  rw [← hD4] at C4 E4
  have RR := Lib.hid (And.intro r0 (And.intro r1 (And.intro r2 (And.intro r3 (And.intro r4 r5)))))
  have AA := Lib.hid (And.intro a0 (And.intro a1 (And.intro a2 (And.intro a3 (And.intro a4 a5)))))
  have HT := Lib.hid ht
  clear r0 r1 r2 r3 r4 r5 a0 a1 a2 a3 a4 a5 hA0 hA1 hA2 hA3 hA4 hA5 hA6 hP1 hP2 hP3 hq0 hq1 hq2 hq3 hD1 hD2 hD3 hD4 s0 s1 s2 s3 l1 l2 l3 l4 hmay hb hu hr hm ht
  unfold optV at CC ⊢
  have HO := Lib.hid (show Blk (W.alloc (.cells #[.int .i64 (b : Int), .int .i64 (u : Int), .int .i64 (r : Int), .int .i64 (m : Int)] 23)) W.heap.size 23 [.int .i64 (b : Int), .int .i64 (u : Int), .int .i64 (r : Int), .int .i64 (m : Int)] from heap_alloc_new W _)
  have HB := Lib.hid ((Below.refl W.heap.size W).alloc (Nat.le_refl _) (.cells #[.int .i64 (b : Int), .int .i64 (u : Int), .int .i64 (r : Int), .int .i64 (m : Int)] 23))
  go_enter Tryd.func7, Tryd.ntmps7
  go_wp2_with fail
  refine (CC.out _).mono ?_
  rintro e w1 ⟨rfl, hb1⟩
  have HO1 := Lib.hid (HO.out.grow hb1)
  have HB1 := Lib.hid (HB.out.trans (hb1.mono HB.out.size))
  obtain ⟨g, hg⟩ : ∃ g, g = W.heap.size := ⟨_, rfl⟩
  rw [← hg] at HO1 ⊢
  clear hb1 HO HB hg
  go_wp2_with fail
  refine wp_region_grow [⟨6, [], .is (.pointer (some ⟨g, 0, none⟩))⟩, ⟨7, [0], .is (.int .i64 (b : Int))⟩, ⟨8, [1], .is (.string D1)⟩, ⟨9, [2], .is (.string A0)⟩, ⟨10, [3], .is (.string A1)⟩, ⟨11, [], .is (.pointer (some ⟨g, 1, none⟩))⟩, ⟨12, [5], .is (.int .i64 (u : Int))⟩, ⟨13, [6], .is (.string D2)⟩, ⟨14, [7], .is (.string P1)⟩, ⟨15, [4, 8], .is (.string A2)⟩, ⟨16, [9], .is (.string A3)⟩, ⟨17, [], .is (.pointer (some ⟨g, 2, none⟩))⟩, ⟨18, [11], .is (.int .i64 (r : Int))⟩, ⟨19, [12], .is (.string D3)⟩, ⟨20, [13], .is (.string P2)⟩, ⟨21, [10, 14], .is (.string A4)⟩, ⟨22, [15], .is (.string A5)⟩, ⟨23, [], .is (.pointer (some ⟨g, 3, none⟩))⟩, ⟨24, [17], .is (.int .i64 (m : Int))⟩, ⟨25, [18], .is (.string D4)⟩, ⟨26, [19], .is (.string P3)⟩, ⟨27, [16, 20], .is (.string A6)⟩, ⟨2, [21], .is (.string A6)⟩]
    [(1, .pointer (some ⟨g, 0, none⟩))] (by kernel_rfl) (by kernel_rfl) (by kernel_rfl) (by kernel_rfl) (by kernel_rfl) ⟨rfl, trivial⟩ ?_ ?_
  · repeat' (first | exact OblGAll.nil | refine OblGAll.cons ?_ ?_)
    all_goals (intro ev yi w' hB hc hf ho hn; simp only [OutsSay, NeedSay, rowAt, Fact.says, and_true] at ho hn)
    all_goals (have q0 := (HO1.out.grow hB).cell 0; have q1 := (HO1.out.grow hB).cell 1; have q2 := (HO1.out.grow hB).cell 2; have q3 := (HO1.out.grow hB).cell 3; simp only [List.getElem?_cons_zero, List.getElem?_cons_succ] at q0 q1 q2 q3)
    all_goals (have hT : TabT W.heap.size w' := HT.out.on (HB1.out.trans (hB.mono HB1.out.size)))
    all_goals (obtain ⟨r0, r1, r2, r3, r4, r5⟩ := RR.out; obtain ⟨a0, a1, a2, a3, a4, a5⟩ := AA.out)
    all_goals (try ((simp [OpSays, execOp, Region.wanted, Fact.says, go_sem, ho, hn, hc, Below.refl, q0, q1, q2, q3, r1, r3, r5, a1, a3, a5]; done)))
    · rw [if_pos (by simp [Region.wanted])]
      exact says_call Tryd.call17 (vs := #[.int .i64 (b : Int)]) rfl hf (by simp [hn]) ((C1.out w' hT).mono fun _ _ h => ⟨_, h.1, rfl, h.2⟩)
    · rw [if_pos (by simp [Region.wanted])]
      exact says_call Tryd.call16 (vs := #[.string ⟨#[98, 108, 111, 99, 107]⟩, .string D1]) rfl hf (by simp [hn, hc]) ((E1.out w').mono fun _ _ h => ⟨_, h.1, rfl, by rw [h.2]; exact Below.refl _ _⟩)
    · rw [if_pos (by simp [Region.wanted])]
      simp [OpSays, execOp, Fact.says, go_sem, hn, hc, show ¬ 9223372036854775807 < A0.size + 1 from r0, a0, Below.refl]
    · rw [if_pos (by simp [Region.wanted])]
      exact says_call Tryd.call17 (vs := #[.int .i64 (u : Int)]) rfl hf (by simp [hn]) ((C2.out w' hT).mono fun _ _ h => ⟨_, h.1, rfl, h.2⟩)
    · rw [if_pos (by simp [Region.wanted])]
      exact says_call Tryd.call16 (vs := #[.string ⟨#[119, 105, 100, 116, 104]⟩, .string D2]) rfl hf (by simp [hn, hc]) ((E2.out w').mono fun _ _ h => ⟨_, h.1, rfl, by rw [h.2]; exact Below.refl _ _⟩)
    · rw [if_pos (by simp [Region.wanted])]
      simp [OpSays, execOp, Fact.says, go_sem, hn, hc, show ¬ 9223372036854775807 < A2.size + 1 from r2, a2, Below.refl]
    · rw [if_pos (by simp [Region.wanted])]
      exact says_call Tryd.call17 (vs := #[.int .i64 (r : Int)]) rfl hf (by simp [hn]) ((C3.out w' hT).mono fun _ _ h => ⟨_, h.1, rfl, h.2⟩)
    · rw [if_pos (by simp [Region.wanted])]
      exact says_call Tryd.call16 (vs := #[.string ⟨#[114, 101, 99, 105, 112, 101]⟩, .string D3]) rfl hf (by simp [hn, hc]) ((E3.out w').mono fun _ _ h => ⟨_, h.1, rfl, by rw [h.2]; exact Below.refl _ _⟩)
    · rw [if_pos (by simp [Region.wanted])]
      simp [OpSays, execOp, Fact.says, go_sem, hn, hc, show ¬ 9223372036854775807 < A4.size + 1 from r4, a4, Below.refl]
    · rw [if_pos (by simp [Region.wanted])]
      exact says_call Tryd.call18 (vs := #[.int .i64 (m : Int)]) rfl hf (by simp [hn]) ((C4.out w').mono fun _ _ h => ⟨_, h.1, rfl, h.2⟩)
    · rw [if_pos (by simp [Region.wanted])]
      exact says_call Tryd.call16 (vs := #[.string ⟨#[109, 111, 100, 101]⟩, .string D4]) rfl hf (by simp [hn, hc]) ((E4.out w').mono fun _ _ h => ⟨_, h.1, rfl, by rw [h.2]; exact Below.refl _ _⟩)
  · intro X w4 hb4 hx
    have hlast : X 22 = .string A6 := hx 22 (by decide)
    clear hx
    have HL := Lib.hid hlast
    clear hlast
    simp only [layAll, List.setIfInBounds_toArray, List.set_cons_succ, List.set_cons_zero]
    go_wp2
    go_ret
    exact ⟨congrArg Ending.returned HL.out, HB1.out.trans (hb4.mono HB1.out.size)⟩
end Go.Proofs.YtnfkekaeppgaoaaDoor
