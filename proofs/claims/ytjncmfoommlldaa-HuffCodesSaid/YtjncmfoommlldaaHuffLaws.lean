/- Layer 22: the fixed calls; the law HuffCodes. -/
import Derived.Test.YtjncmfoommlldaaHuffLawM
namespace Go.Proofs.Ytjncmfoommlldaa
open Go.RowKit Go.Sort Go.Shelf

theorem newH_says {w : World} {Q : List UInt8} {e : Ending} {w' : World} (h : NewH w Q e w') : ∃ v, e = .returned v ∧ (Fact.bytes Q).says v w' ∧ Below w.heap.size w w' := h
set_option maxHeartbeats 2000000 in
set_option maxRecDepth 100000 in
theorem huffKnown_any (w : World) : Calls Try.prog 7 #[] w (Yes w) := by
  have C1 := Lib.hid (fun (v : Value) (W : World) (h : IsBytes [0] v W) => huffCode_q k_huff (by decide) v W h)
  have C2 : Hid (∀ (v : Value) (W : World), IsBytes codH v W → Calls Try.prog 8 #[v, .int .i64 1] W (SaysH [0] 0 W)) := fun v W h => (huffBack_q k_huff (by decide) (by decide) v W).1 h
  have C3 := Lib.hid (fun (W : World) => huffCode_q (l := []) (.inl ⟨rfl, rfl⟩) (by decide) (.slice none 0 0) W (bytes_none _))
  have HB0 := Lib.hid (show Below w.heap.size w (w.alloc (.cells #[.int .u8 0] 5)) from (Below.refl _ _).alloc (Nat.le_refl _) _)
  go_enter Try.func7, Try.ntmps7
  go_wp2_with fail
  refine (C1.out _ _ ⟨_, 1, rfl, by decide, Rd.new w _ _⟩).mono ?_
  rintro e w1 ⟨v1, rfl, hv1, hb1⟩
  obtain ⟨A1, c1, rfl, hc1, hr1⟩ := hv1
  obtain ⟨b1, o1, rfl, hbl1, hcell1⟩ := hr1 0 (.int .u8 3) rfl
  have HV1 := Lib.hid (show IsBytes codH (.slice (some ⟨b1, o1, none⟩) codH.length c1) w1 from ⟨_, c1, rfl, hc1, hr1⟩)
  have HB1 := Lib.hid (HB0.out.trans (hb1.mono HB0.out.size))
  rw [show codH.length = 33 by decide] at HV1 ⊢
  clear hb1 C1 HB0 hc1 hr1
  go_wp2_with fail
  refine (C2.out _ _ HV1.out).mono ?_
  rintro e w2 ⟨v2, rfl, hv2, hb2⟩
  have HV2 := Lib.hid hv2
  have hcell2 := (hb2.cell (p := ⟨b1, o1 + 0, none⟩) hbl1).trans hcell1
  rw [Nat.add_zero] at hcell2
  have HB2 := Lib.hid (HB1.out.trans (hb2.mono HB1.out.size))
  clear hv2 hb2 C2 HV1 HB1 hcell1
  go_wp2_with ((with_reducible show wpList _ _ _ (({ dst := some 26, op := _, type := _, pos := _, after := _, guard := _ } : Oper) :: _) _ _); go_must (refine wpList_strW rfl 22 9 5 (.tmp 25) rfl Try.underlying22 Try.underlying5 Try.underlying9 _ HV2.out ?_))
  refine (C3.out w2).mono ?_
  rintro e w3 ⟨v3, rfl, hv3, hb3⟩
  obtain ⟨A3, c3, rfl, -, -⟩ := hv3
  have HB3 := Lib.hid (HB2.out.trans (hb3.mono HB2.out.size))
  clear hb3 C3 HB2 hcell2
  go_wp2
  go_ret
  exact ⟨rfl, HB3.out⟩
set_option maxHeartbeats 2000000 in
set_option maxRecDepth 100000 in
theorem huffCodes_law (A : Option Addr) (L c : Nat) (l : List UInt8) (w : World) (hr : Rd w w.heap.size A (bvs l)) (hL : l.length = L) (hLc : L ≤ c) (hL63 : L ≤ 9223372036854775807) :
    Calls Try.prog 3 #[.slice A L c] w (Yes w) := by
  subst hL
  have CK := Lib.hid huffKnown_any
  by_cases h400 : 400 < l.length
  · have h6 : (400 : Int) < (l.length : Int) := by omega
    clear hr
    go_enter Try.func3, Try.ntmps3
    go_wp2
    refine wp_region_grow [⟨3, [], .is (.slice A l.length c)⟩,
      ⟨4, [0], .is (.int .i64 (l.length : Nat))⟩,
      ⟨5, [1], .is (.bool true)⟩,
      ⟨6, [2], .is (.bool true)⟩,
      ⟨7, [3], .is undef⟩,
      ⟨8, [4, 3], .is undef⟩,
      ⟨9, [5, 3], .is undef⟩,
      ⟨10, [3], .is undef⟩,
      ⟨11, [7, 3], .is undef⟩,
      ⟨12, [8, 3], .is undef⟩,
      ⟨13, [6, 9, 3], .is undef⟩,
      ⟨14, [10, 3], .is undef⟩,
      ⟨15, [11], .is undef⟩,
      ⟨16, [11, 12, 3], .is undef⟩,
      ⟨17, [3, 13], .is (.bool true)⟩,
      ⟨2, [14], .is (.bool true)⟩]
      [(0, .slice A l.length c)] (by kernel_rfl) (by kernel_rfl) (by kernel_rfl) (by kernel_rfl) (by kernel_rfl) ⟨rfl, trivial⟩ ?_ ?_
    · repeat' (first | exact OblGAll.nil | refine OblGAll.cons ?_ ?_)
      all_goals (intro ev yi w' hB hc hf ho hn; simp only [OutsSay, NeedSay, rowAt, Fact.says, and_true] at ho hn)
      all_goals (try ((simp [OpSays, execOp, Region.wanted, Fact.says, boolOf, go_sem, ho, hn, hc, Below.refl]; done)))
      · rw [if_pos (by simp [Region.wanted])]
        simp [OpSays, execOp, go_sem, Fact.says, hn, hc, Below.refl]
        omega
      · simp [Region.wanted, hn, boolOf, undef, Fact.says]
    · intro X w4 hb4 hx
      have hlast : X 15 = .bool true := hx 15 (by decide)
      clear hx
      have HL := Lib.hid hlast
      clear hlast
      simp only [layAll, List.setIfInBounds_toArray, List.set_cons_succ, List.set_cons_zero]
      go_wp2
      go_ret
      exact ⟨congrArg Ending.returned HL.out, hb4⟩
  · have h6 : ¬ (400 : Int) < (l.length : Int) := by omega
    have HR := Lib.hid (bytes_row hr rfl hLc)
    obtain ⟨Q, hQ⟩ := huffQ_some (by omega) hr
    have C1 := Lib.hid (fun (W' : World) (h : IsBytes l (.slice A l.length c) W') => huffCode_q hQ (by omega) _ W' h)
    have C2 := Lib.hid (fun (W' : World) (h : IsBytes l (.slice A l.length c) W') => huffRef_q hQ (by omega) _ W' h)
    clear hr hQ
    go_enter Try.func3, Try.ntmps3
    go_wp2
    refine wp_region_grow [⟨3, [], .is (.slice A l.length c)⟩,
      ⟨4, [0], .is (.int .i64 (l.length : Nat))⟩,
      ⟨5, [1], .is (.bool false)⟩,
      ⟨6, [2], .is (.bool false)⟩,
      ⟨7, [3], .is (.slice A l.length c)⟩,
      ⟨8, [4, 3], .bytes (Q)⟩,
      ⟨9, [5, 3], .is (.string ⟨(Q).toArray⟩)⟩,
      ⟨10, [3], .is (.slice A l.length c)⟩,
      ⟨11, [7, 3], .bytes (Q)⟩,
      ⟨12, [8, 3], .is (.string ⟨(Q).toArray⟩)⟩,
      ⟨13, [6, 9, 3], .is (.bool true)⟩,
      ⟨14, [10, 3], .is (.bool true)⟩,
      ⟨15, [11], .is (.bool true)⟩,
      ⟨16, [11, 12, 3], .is (.bool true)⟩,
      ⟨17, [3, 13], .is (.bool true)⟩,
      ⟨2, [14], .is (.bool true)⟩]
      [(0, .slice A l.length c)] (by kernel_rfl) (by kernel_rfl) (by kernel_rfl) (by kernel_rfl) (by kernel_rfl) ⟨rfl, trivial⟩ ?_ ?_
    · repeat' (first | exact OblGAll.nil | refine OblGAll.cons ?_ ?_)
      all_goals (intro ev yi w' hB hc hf ho hn; simp only [OutsSay, NeedSay, rowAt, Fact.says, and_true] at ho hn)
      all_goals (try ((simp [OpSays, execOp, Region.wanted, Fact.says, boolOf, go_sem, ho, hn, hc, Below.refl]; done)))
      · rw [if_pos (by simp [Region.wanted])]
        simp [OpSays, execOp, go_sem, Fact.says, hn, hc, Below.refl]
        omega
      · rw [if_pos (by simp [Region.wanted, hn, boolOf])]
        exact says_call Try.call5 (vs := #[.slice A l.length c]) rfl hf (by simp [hn]) ((C1.out w' (HR.out.grow hB)).mono fun _ _ => newH_says)
      · rw [if_pos (by simp [Region.wanted, hn, boolOf])]
        exact says_str rfl Try.underlying22 Try.underlying5 Try.underlying9 hn.1 ⟨rfl, Below.refl _ _⟩
      · rw [if_pos (by simp [Region.wanted, hn, boolOf])]
        exact says_call Try.call6 (vs := #[.slice A l.length c]) rfl hf (by simp [hn]) ((C2.out w' (HR.out.grow hB)).mono fun _ _ => newH_says)
      · rw [if_pos (by simp [Region.wanted, hn, boolOf])]
        exact says_str rfl Try.underlying22 Try.underlying5 Try.underlying9 hn.1 ⟨rfl, Below.refl _ _⟩
      · rw [if_pos (by simp [Region.wanted, hn, boolOf])]
        exact says_call Try.call7 (vs := #[]) rfl hf (by simp) ((CK.out w').mono fun _ _ h => ⟨_, h.1, rfl, h.2⟩)
    · intro X w4 hb4 hx
      have hlast : X 15 = .bool true := hx 15 (by decide)
      clear hx
      have HL := Lib.hid hlast
      clear hlast
      simp only [layAll, List.setIfInBounds_toArray, List.set_cons_succ, List.set_cons_zero]
      go_wp2
      go_ret
      exact ⟨congrArg Ending.returned HL.out, hb4⟩
end Go.Proofs.Ytjncmfoommlldaa
