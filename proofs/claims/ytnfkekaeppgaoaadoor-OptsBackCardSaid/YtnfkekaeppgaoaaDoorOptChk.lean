/- Layer 28: OptsCheck. -/
import Derived.Test.YtnfkekaeppgaoaaDoorOptTxt
import Derived.Test.YtnfkekaeppgaoaaDoorOptRds
namespace Go.Proofs.YtnfkekaeppgaoaaDoor
open Go.RowKit Go.Sort

/-- The program's Text and the reference's are the same. -/
theorem text_same (b u r m : Int) : ∃ TX, (∀ w, TabT w.heap.size w → Calls Tryd.prog 7 #[optV b u r m] w fun e w' => e = .returned (.string TX) ∧ Below w.heap.size w w') ∧ (∀ w, Calls Tryd.prog 8 #[optV b u r m] w fun e w' => e = .returned (.string TX) ∧ Below w.heap.size w w') := by
  cases hmay : mayO b u r m with
  | false => exact ⟨strA [], fun w _ => optText_no hmay w, fun w => refText_no hmay w⟩
  | true =>
    obtain ⟨b', u', r', m', rfl, rfl, rfl, rfl, hb1, hb2, hu, hr10, hm6⟩ := mayO_nat hmay
    have hu8 : u' ≤ 8 := by rcases hu with h | h | h | h <;> omega
    exact ⟨_, fun w h => optText_yes hb2 hu8 hr10 hm6 hmay h, fun w => refText_yes hb2 hu8 hr10 hm6 hmay w⟩
set_option maxRecDepth 100000 in
set_option maxHeartbeats 2000000 in
theorem optsCheck_law (b u r m : Int) (W : World) (ht : TabT W.heap.size W) : Calls Tryd.prog 3 #[.agg #[.int .i64 b, .int .i64 u, .int .i64 r, .int .i64 m]] W fun e w' => e = .returned (.bool true) ∧ Below W.heap.size W w' := by
  have CK := Lib.hid known28_any
  have CM := Lib.hid (refMay_any b u r m)
  have CC := Lib.hid (optCheck_any b u r m)
  have F1 := Lib.hid optFirst_any
  have F2 := Lib.hid refFirst_any
  obtain ⟨TX, ct, cr⟩ := text_same b u r m
  have CT := Lib.hid ct
  have CR := Lib.hid cr
  have HT := Lib.hid ht
  unfold optV at CM CC F1 F2 CT CR
  have HO := Lib.hid (show Blk (W.alloc (.cells #[.int .i64 b, .int .i64 u, .int .i64 r, .int .i64 m] 23)) W.heap.size 23 [.int .i64 b, .int .i64 u, .int .i64 r, .int .i64 m] from heap_alloc_new W _)
  have HB := Lib.hid ((Below.refl W.heap.size W).alloc (Nat.le_refl _) (.cells #[.int .i64 b, .int .i64 u, .int .i64 r, .int .i64 m] 23))
  obtain ⟨c, hc⟩ : ∃ c, c = chkE b u r m := ⟨_, rfl⟩
  rw [← hc] at CC
  clear ct cr ht
  cases hmay : mayO b u r m with
  | false =>
    have hcv : c = 10 := by rw [hc]; unfold chkE; rw [hmay]; rfl
    rw [hmay] at CM
    clear hmay hc
    go_enter Tryd.func3, Tryd.ntmps3
    go_wp2_with fail
    refine (CM.out _).mono ?_
    rintro e w1 ⟨rfl, hb1⟩
    have HO1 := Lib.hid (HO.out.grow hb1)
    have HB1 := Lib.hid (HB.out.trans (hb1.mono HB.out.size))
    obtain ⟨g, hg⟩ : ∃ g, g = W.heap.size := ⟨_, rfl⟩
    rw [← hg] at HO1 ⊢
    subst hcv
    clear hb1 HO HB hg CM
    go_wp2_with fail
    refine wp_region_grow [⟨7, [], .is (.agg #[.int .i64 b, .int .i64 u, .int .i64 r, .int .i64 m])⟩,
      ⟨8, [0], .is (.int .i64 10)⟩,
      ⟨9, [], .is (.int .i64 10)⟩,
      ⟨10, [1, 2], .is (.bool true)⟩,
      ⟨11, [3], .is (.bool true)⟩,
      ⟨12, [4], .is (.agg #[.int .i64 b, .int .i64 u, .int .i64 r, .int .i64 m])⟩,
      ⟨13, [5, 4], .is (.string TX)⟩,
      ⟨14, [4], .is (.agg #[.int .i64 b, .int .i64 u, .int .i64 r, .int .i64 m])⟩,
      ⟨15, [7, 4], .is (.string TX)⟩,
      ⟨16, [6, 8, 4], .is (.bool true)⟩,
      ⟨17, [4, 9], .is (.bool true)⟩,
      ⟨18, [10], .is (.bool true)⟩,
      ⟨19, [11], .is (.agg #[.int .i64 65536, .int .i64 1, .int .i64 0, .int .i64 6])⟩,
      ⟨20, [11], .is (.agg #[.int .i64 65536, .int .i64 1, .int .i64 0, .int .i64 6])⟩,
      ⟨21, [12, 13, 11], .is (.bool true)⟩,
      ⟨22, [11, 14], .is (.bool true)⟩,
      ⟨23, [15], .is (.bool true)⟩,
      ⟨24, [16], .is (.bool true)⟩,
      ⟨25, [16, 17], .is (.bool true)⟩,
      ⟨2, [18], .is (.bool true)⟩]
      [(1, .pointer (some ⟨g, 0, none⟩)), (3, .int .i64 10)] (by kernel_rfl) (by kernel_rfl) (by kernel_rfl) (by kernel_rfl) (by kernel_rfl) ⟨rfl, rfl, trivial⟩ ?_ ?_
    · repeat' (first | exact OblGAll.nil | refine OblGAll.cons ?_ ?_)
      all_goals (intro ev yi w' hB hc hf ho hn; simp only [OutsSay, NeedSay, rowAt, Fact.says, and_true] at ho hn)
      all_goals (try ((simp [OpSays, execOp, Region.wanted, Fact.says, boolOf, go_sem, ho, hn, hc, Below.refl]; done)))
      · rw [if_pos (by simp [Region.wanted])]
        have q0 := (HO1.out.grow hB).cell 0
        have q1 := (HO1.out.grow hB).cell 1
        have q2 := (HO1.out.grow hB).cell 2
        have q3 := (HO1.out.grow hB).cell 3
        simp only [List.getElem?_cons_zero, List.getElem?_cons_succ] at q0 q1 q2 q3
        simp [OpSays, execOp, Fact.says, go_sem, ho, Below.refl, q0, q1, q2, q3]
      · rw [if_pos (by simp [Region.wanted])]
        exact says_call Tryd.call6 (vs := #[.agg #[.int .i64 b, .int .i64 u, .int .i64 r, .int .i64 m]]) rfl hf (by simp [hn]) ((CC.out w').mono fun _ _ h => ⟨_, h.1, rfl, h.2⟩)
      · rw [if_pos (by simp [Region.wanted, hn, boolOf])]
        have q0 := (HO1.out.grow hB).cell 0
        have q1 := (HO1.out.grow hB).cell 1
        have q2 := (HO1.out.grow hB).cell 2
        have q3 := (HO1.out.grow hB).cell 3
        simp only [List.getElem?_cons_zero, List.getElem?_cons_succ] at q0 q1 q2 q3
        simp [OpSays, execOp, Fact.says, go_sem, ho, Below.refl, q0, q1, q2, q3]
      · rw [if_pos (by simp [Region.wanted, hn, boolOf])]
        exact says_call Tryd.call7 (vs := #[.agg #[.int .i64 b, .int .i64 u, .int .i64 r, .int .i64 m]]) rfl hf (by simp [hn]) ((CT.out w' ((HT.out.on (HB1.out.trans (hB.mono HB1.out.size))).up (Nat.le_trans HB1.out.size hB.size))).mono fun _ _ h => ⟨_, h.1, rfl, h.2⟩)
      · rw [if_pos (by simp [Region.wanted, hn, boolOf])]
        have q0 := (HO1.out.grow hB).cell 0
        have q1 := (HO1.out.grow hB).cell 1
        have q2 := (HO1.out.grow hB).cell 2
        have q3 := (HO1.out.grow hB).cell 3
        simp only [List.getElem?_cons_zero, List.getElem?_cons_succ] at q0 q1 q2 q3
        simp [OpSays, execOp, Fact.says, go_sem, ho, Below.refl, q0, q1, q2, q3]
      · rw [if_pos (by simp [Region.wanted, hn, boolOf])]
        exact says_call Tryd.call8 (vs := #[.agg #[.int .i64 b, .int .i64 u, .int .i64 r, .int .i64 m]]) rfl hf (by simp [hn]) ((CR.out w').mono fun _ _ h => ⟨_, h.1, rfl, h.2⟩)
      · rw [if_pos (by simp [Region.wanted, hn, boolOf])]
        exact says_call Tryd.call9 (vs := #[]) rfl hf (by simp) ((F1.out w').mono fun _ _ h => ⟨_, h.1, rfl, h.2⟩)
      · rw [if_pos (by simp [Region.wanted, hn, boolOf])]
        exact says_call Tryd.call10 (vs := #[]) rfl hf (by simp) ((F2.out w').mono fun _ _ h => ⟨_, h.1, rfl, h.2⟩)
      · rw [if_pos (by simp [Region.wanted, hn, boolOf])]
        exact says_call Tryd.call11 (vs := #[]) rfl hf (by simp) ((CK.out w').mono fun _ _ h => ⟨_, h.1, rfl, h.2⟩)
    · intro X w4 hb4 hx
      have hlast : X 19 = .bool true := hx 19 (by decide)
      clear hx
      have HL := Lib.hid hlast
      clear hlast
      simp only [layAll, List.setIfInBounds_toArray, List.set_cons_succ, List.set_cons_zero]
      go_wp2
      go_ret
      exact ⟨congrArg Ending.returned HL.out, HB1.out.trans (hb4.mono HB1.out.size)⟩
  | true =>
    have hcv : c = 0 := by rw [hc]; unfold chkE; rw [hmay]; rfl
    rw [hmay] at CM
    clear hmay hc
    go_enter Tryd.func3, Tryd.ntmps3
    go_wp2_with fail
    refine (CM.out _).mono ?_
    rintro e w1 ⟨rfl, hb1⟩
    have HO1 := Lib.hid (HO.out.grow hb1)
    have HB1 := Lib.hid (HB.out.trans (hb1.mono HB.out.size))
    obtain ⟨g, hg⟩ : ∃ g, g = W.heap.size := ⟨_, rfl⟩
    rw [← hg] at HO1 ⊢
    subst hcv
    clear hb1 HO HB hg CM
    go_wp2_with fail
    refine wp_region_grow [⟨7, [], .is (.agg #[.int .i64 b, .int .i64 u, .int .i64 r, .int .i64 m])⟩,
      ⟨8, [0], .is (.int .i64 0)⟩,
      ⟨9, [], .is (.int .i64 0)⟩,
      ⟨10, [1, 2], .is (.bool true)⟩,
      ⟨11, [3], .is (.bool true)⟩,
      ⟨12, [4], .is (.agg #[.int .i64 b, .int .i64 u, .int .i64 r, .int .i64 m])⟩,
      ⟨13, [5, 4], .is (.string TX)⟩,
      ⟨14, [4], .is (.agg #[.int .i64 b, .int .i64 u, .int .i64 r, .int .i64 m])⟩,
      ⟨15, [7, 4], .is (.string TX)⟩,
      ⟨16, [6, 8, 4], .is (.bool true)⟩,
      ⟨17, [4, 9], .is (.bool true)⟩,
      ⟨18, [10], .is (.bool true)⟩,
      ⟨19, [11], .is (.agg #[.int .i64 65536, .int .i64 1, .int .i64 0, .int .i64 6])⟩,
      ⟨20, [11], .is (.agg #[.int .i64 65536, .int .i64 1, .int .i64 0, .int .i64 6])⟩,
      ⟨21, [12, 13, 11], .is (.bool true)⟩,
      ⟨22, [11, 14], .is (.bool true)⟩,
      ⟨23, [15], .is (.bool true)⟩,
      ⟨24, [16], .is (.bool true)⟩,
      ⟨25, [16, 17], .is (.bool true)⟩,
      ⟨2, [18], .is (.bool true)⟩]
      [(1, .pointer (some ⟨g, 0, none⟩)), (3, .int .i64 0)] (by kernel_rfl) (by kernel_rfl) (by kernel_rfl) (by kernel_rfl) (by kernel_rfl) ⟨rfl, rfl, trivial⟩ ?_ ?_
    · repeat' (first | exact OblGAll.nil | refine OblGAll.cons ?_ ?_)
      all_goals (intro ev yi w' hB hc hf ho hn; simp only [OutsSay, NeedSay, rowAt, Fact.says, and_true] at ho hn)
      all_goals (try ((simp [OpSays, execOp, Region.wanted, Fact.says, boolOf, go_sem, ho, hn, hc, Below.refl]; done)))
      · rw [if_pos (by simp [Region.wanted])]
        have q0 := (HO1.out.grow hB).cell 0
        have q1 := (HO1.out.grow hB).cell 1
        have q2 := (HO1.out.grow hB).cell 2
        have q3 := (HO1.out.grow hB).cell 3
        simp only [List.getElem?_cons_zero, List.getElem?_cons_succ] at q0 q1 q2 q3
        simp [OpSays, execOp, Fact.says, go_sem, ho, Below.refl, q0, q1, q2, q3]
      · rw [if_pos (by simp [Region.wanted])]
        exact says_call Tryd.call6 (vs := #[.agg #[.int .i64 b, .int .i64 u, .int .i64 r, .int .i64 m]]) rfl hf (by simp [hn]) ((CC.out w').mono fun _ _ h => ⟨_, h.1, rfl, h.2⟩)
      · rw [if_pos (by simp [Region.wanted, hn, boolOf])]
        have q0 := (HO1.out.grow hB).cell 0
        have q1 := (HO1.out.grow hB).cell 1
        have q2 := (HO1.out.grow hB).cell 2
        have q3 := (HO1.out.grow hB).cell 3
        simp only [List.getElem?_cons_zero, List.getElem?_cons_succ] at q0 q1 q2 q3
        simp [OpSays, execOp, Fact.says, go_sem, ho, Below.refl, q0, q1, q2, q3]
      · rw [if_pos (by simp [Region.wanted, hn, boolOf])]
        exact says_call Tryd.call7 (vs := #[.agg #[.int .i64 b, .int .i64 u, .int .i64 r, .int .i64 m]]) rfl hf (by simp [hn]) ((CT.out w' ((HT.out.on (HB1.out.trans (hB.mono HB1.out.size))).up (Nat.le_trans HB1.out.size hB.size))).mono fun _ _ h => ⟨_, h.1, rfl, h.2⟩)
      · rw [if_pos (by simp [Region.wanted, hn, boolOf])]
        have q0 := (HO1.out.grow hB).cell 0
        have q1 := (HO1.out.grow hB).cell 1
        have q2 := (HO1.out.grow hB).cell 2
        have q3 := (HO1.out.grow hB).cell 3
        simp only [List.getElem?_cons_zero, List.getElem?_cons_succ] at q0 q1 q2 q3
        simp [OpSays, execOp, Fact.says, go_sem, ho, Below.refl, q0, q1, q2, q3]
      · rw [if_pos (by simp [Region.wanted, hn, boolOf])]
        exact says_call Tryd.call8 (vs := #[.agg #[.int .i64 b, .int .i64 u, .int .i64 r, .int .i64 m]]) rfl hf (by simp [hn]) ((CR.out w').mono fun _ _ h => ⟨_, h.1, rfl, h.2⟩)
      · rw [if_pos (by simp [Region.wanted, hn, boolOf])]
        exact says_call Tryd.call9 (vs := #[]) rfl hf (by simp) ((F1.out w').mono fun _ _ h => ⟨_, h.1, rfl, h.2⟩)
      · rw [if_pos (by simp [Region.wanted, hn, boolOf])]
        exact says_call Tryd.call10 (vs := #[]) rfl hf (by simp) ((F2.out w').mono fun _ _ h => ⟨_, h.1, rfl, h.2⟩)
      · rw [if_pos (by simp [Region.wanted, hn, boolOf])]
        exact says_call Tryd.call11 (vs := #[]) rfl hf (by simp) ((CK.out w').mono fun _ _ h => ⟨_, h.1, rfl, h.2⟩)
    · intro X w4 hb4 hx
      have hlast : X 19 = .bool true := hx 19 (by decide)
      clear hx
      have HL := Lib.hid hlast
      clear hlast
      simp only [layAll, List.setIfInBounds_toArray, List.set_cons_succ, List.set_cons_zero]
      go_wp2
      go_ret
      exact ⟨congrArg Ending.returned HL.out, HB1.out.trans (hb4.mono HB1.out.size)⟩
end Go.Proofs.YtnfkekaeppgaoaaDoor
