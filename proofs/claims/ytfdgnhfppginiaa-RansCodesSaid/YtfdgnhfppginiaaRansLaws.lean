/- Layer 18: the fixed calls; the laws RansCodes, RansBack, RansStill. -/
import Derived.Test.YtfdgnhfppginiaaRansLawM
namespace Go.Proofs.Ytfdgnhfppginiaa
open Go.RowKit Go.Sort

theorem newQ_says {w : World} {Q : List UInt8} {e : Ending} {w' : World} (h : NewQ w Q e w') : ∃ v, e = .returned v ∧ (Fact.bytes Q).says v w' ∧ Below w.heap.size w w' := h
theorem k_rans (w : World) : RansQ [65] [65, 255, 31, 190, 1, 0, 128, 0, 0] := by
  obtain ⟨Q, hQ⟩ := ransQ_some (l := [65]) (by decide) (Rd.new w #[.int .u8 65] 5)
  rcases hQ with ⟨h, -⟩ | ⟨h1, h2, h3⟩
  · cases h
  · have h4 := rans_still (m := 1) (c := 65) h2 (by decide) (by decide)
    rw [show (65 : UInt8).toNat = 65 from rfl, one_65] at h4
    subst h4
    exact .inr ⟨h1, h2, h3⟩
set_option maxHeartbeats 1000000 in
set_option maxRecDepth 100000 in
theorem ransKnown_any (w : World) : Calls Try.prog 12 #[] w (Yes w) := by
  have C1 : Hid (∀ (v : Value) (W' : World), IsBytes [65, 255, 31, 190, 1, 0, 128, 0, 0] v W' → Calls Try.prog 13 #[v, .int .i64 1] W' (DecSays W' ([65], 0))) := fun v W' h => (ransBack_q (k_rans w) (by decide) v W').1 h
  have C2 : Hid (∀ (v : Value) (W' : World), IsBytes [65] v W' → Calls Try.prog 10 #[v] W' (NewQ W' [65, 255, 31, 190, 1, 0, 128, 0, 0])) := fun v W' h => ransCode_q (k_rans w) (by decide) v W' h
  have C3 : Hid (∀ (W' : World), Calls Try.prog 10 #[.slice none 0 0] W' (NewQ W' [])) := fun W' => ransCode_q (l := []) (.inl ⟨rfl, rfl⟩) (by decide) _ W' (bytes_nil18 _)
  go_enter Try.func12, Try.ntmps12
  go_wp2_with fail
  refine (C1.out _ _ ⟨_, 9, rfl, by decide, Rd.new w _ _⟩).mono ?_
  rintro e w1 ⟨v, rfl, hv, hb⟩
  have HV := Lib.hid hv
  have HB := Lib.hid (((Below.refl _ _).alloc (Nat.le_refl _) _).trans (hb.mono (by simp)))
  clear hv hb C1
  go_wp2
  refine wp_region_grow [⟨8, [], .bytes [65]⟩,
    ⟨9, [0], .bytes [65, 255, 31, 190, 1, 0, 128, 0, 0]⟩,
    ⟨10, [1], .is (.string ⟨#[65, 255, 31, 190, 1, 0, 128, 0, 0]⟩)⟩,
    ⟨11, [], .bytes [65, 255, 31, 190, 1, 0, 128, 0, 0]⟩,
    ⟨12, [3], .is (.string ⟨#[65, 255, 31, 190, 1, 0, 128, 0, 0]⟩)⟩,
    ⟨13, [2, 4], .is (.bool true)⟩,
    ⟨14, [5], .is (.bool true)⟩,
    ⟨15, [6], .is (.int .i64 0)⟩,
    ⟨16, [7, 6], .is (.bool true)⟩,
    ⟨17, [6, 8], .is (.bool true)⟩,
    ⟨18, [9], .is (.bool true)⟩,
    ⟨19, [10], .is (v)⟩,
    ⟨20, [11, 10], .is (.string ⟨#[65]⟩)⟩,
    ⟨21, [12, 10], .is (.bool true)⟩,
    ⟨22, [10, 13], .is (.bool true)⟩,
    ⟨23, [14], .is (.bool true)⟩,
    ⟨24, [15], .bytes []⟩,
    ⟨25, [16, 15], .is (.int .i64 0)⟩,
    ⟨26, [17, 15], .is (.bool true)⟩,
    ⟨27, [15, 18], .is (.bool true)⟩,
    ⟨0, [19], .is (.bool true)⟩]
    [(2, .int .i64 0), (1, v)] (by kernel_rfl) (by kernel_rfl) (by kernel_rfl) (by kernel_rfl) (by kernel_rfl) ⟨rfl, rfl, trivial⟩ ?_ ?_
  · repeat' (first | exact OblGAll.nil | refine OblGAll.cons ?_ ?_)
    all_goals (intro ev yi w' hB hc hf ho hn; simp only [OutsSay, NeedSay, rowAt, Fact.says, and_true] at ho hn)
    all_goals (try ((simp [OpSays, execOp, Region.wanted, Fact.says, boolOf, go_sem, ho, hn, hc, Below.refl]; done)))
    · rw [if_pos (by simp [Region.wanted])]
      simp [OpSays, execOp, go_sem, hc]
      exact ⟨⟨_, 1, rfl, by decide, Rd.new w' _ _⟩, (Below.refl _ _).alloc (Nat.le_refl _) _⟩
    · rw [if_pos (by simp [Region.wanted])]
      exact says_call Try.call10 (vs := #[ev (.tmp 8)]) rfl hf (by simp) (C2.out _ w' hn.1)
    · rw [if_pos (by simp [Region.wanted])]
      exact says_str rfl Try.underlying22 Try.underlying5 Try.underlying9 hn.1 ⟨rfl, Below.refl _ _⟩
    · rw [if_pos (by simp [Region.wanted])]
      simp [OpSays, execOp, go_sem, hc]
      exact ⟨⟨_, 9, rfl, by decide, Rd.new w' _ _⟩, (Below.refl _ _).alloc (Nat.le_refl _) _⟩
    · rw [if_pos (by simp [Region.wanted])]
      exact says_str rfl Try.underlying22 Try.underlying5 Try.underlying9 hn.1 ⟨rfl, Below.refl _ _⟩
    · rw [if_pos (by simp [Region.wanted, hn, boolOf])]
      exact says_str rfl Try.underlying22 Try.underlying5 Try.underlying9 (by rw [hn.1]; exact HV.out.grow hB) ⟨rfl, Below.refl _ _⟩
    · rw [if_pos (by simp [Region.wanted, hn, boolOf])]
      exact says_call Try.call10 (vs := #[.slice none 0 0]) rfl hf (by simp [hc]) (C3.out w')
    · rw [if_pos (by simp [Region.wanted, hn, boolOf])]
      obtain ⟨Ax, cx, hv, -, -⟩ := hn.1
      simp [OpSays, go_sem, Fact.says, hv, Below.refl]
  · intro X w4 hb4 hx
    have hlast : X 20 = .bool true := hx 20 (by decide)
    clear hx
    have HL := Lib.hid hlast
    clear hlast
    simp only [layAll, List.setIfInBounds_toArray, List.set_cons_succ, List.set_cons_zero]
    go_wp2
    go_ret
    exact ⟨congrArg Ending.returned HL.out, HB.out.trans (hb4.mono HB.out.size)⟩
set_option maxHeartbeats 2000000 in
set_option maxRecDepth 100000 in
theorem ransCodes_law (A : Option Addr) (L c : Nat) (l : List UInt8) (w : World) (hr : Rd w w.heap.size A (bvs l)) (hL : l.length = L) (hLc : L ≤ c) (hL63 : L ≤ 9223372036854775807) :
    Calls Try.prog 3 #[.slice A L c] w (Yes w) := by
  subst hL
  have CK := Lib.hid ransKnown_any
  by_cases h600 : 600 < l.length
  · have h6 : (600 : Int) < (l.length : Int) := by omega
    clear hr
    go_enter Try.func3, Try.ntmps3
    go_wp2
    refine wp_region_grow [⟨3, [], .is (.slice A l.length c)⟩,
      ⟨4, [0], .is (.int .i64 (l.length : Nat))⟩,
      ⟨5, [1], .is (.bool true)⟩,
      ⟨6, [2], .is (.bool true)⟩,
      ⟨7, [3], .is undef⟩,
      ⟨8, [4, 3], .is undef⟩,
      ⟨9, [5, 3], .is undef⟩,
      ⟨10, [3], .is undef⟩,
      ⟨11, [7, 3], .is undef⟩,
      ⟨12, [8, 3], .is undef⟩,
      ⟨13, [6, 9, 3], .is undef⟩,
      ⟨14, [10, 3], .is undef⟩,
      ⟨15, [11], .is undef⟩,
      ⟨16, [11, 12, 3], .is undef⟩,
      ⟨17, [3, 13], .is (.bool true)⟩,
      ⟨2, [14], .is (.bool true)⟩]
      [(0, .slice A l.length c)] (by kernel_rfl) (by kernel_rfl) (by kernel_rfl) (by kernel_rfl) (by kernel_rfl) ⟨rfl, trivial⟩ ?_ ?_
    · repeat' (first | exact OblGAll.nil | refine OblGAll.cons ?_ ?_)
      all_goals (intro ev yi w' hB hc hf ho hn; simp only [OutsSay, NeedSay, rowAt, Fact.says, and_true] at ho hn)
      all_goals (try ((simp [OpSays, execOp, Region.wanted, Fact.says, boolOf, go_sem, ho, hn, hc, Below.refl]; done)))
      · rw [if_pos (by simp [Region.wanted])]
        simp [OpSays, execOp, go_sem, Fact.says, hn, hc, Below.refl]
        omega
      · simp [Region.wanted, hn, boolOf, undef, Fact.says]
    · intro X w4 hb4 hx
      have hlast : X 15 = .bool true := hx 15 (by decide)
      clear hx
      have HL := Lib.hid hlast
      clear hlast
      simp only [layAll, List.setIfInBounds_toArray, List.set_cons_succ, List.set_cons_zero]
      go_wp2
      go_ret
      exact ⟨congrArg Ending.returned HL.out, hb4⟩
  · have h6 : ¬ (600 : Int) < (l.length : Int) := by omega
    have HR := Lib.hid (bytes_row hr rfl hLc)
    obtain ⟨Q, hQ⟩ := ransQ_some (by omega) hr
    have C1 := Lib.hid (fun (W' : World) (h : IsBytes l (.slice A l.length c) W') => ransCode_q hQ (by omega) _ W' h)
    have C2 := Lib.hid (fun (W' : World) (h : IsBytes l (.slice A l.length c) W') => ransRef_q hQ (by omega) _ W' h)
    clear hr hQ
    go_enter Try.func3, Try.ntmps3
    go_wp2
    refine wp_region_grow [⟨3, [], .is (.slice A l.length c)⟩,
      ⟨4, [0], .is (.int .i64 (l.length : Nat))⟩,
      ⟨5, [1], .is (.bool false)⟩,
      ⟨6, [2], .is (.bool false)⟩,
      ⟨7, [3], .is (.slice A l.length c)⟩,
      ⟨8, [4, 3], .bytes (Q)⟩,
      ⟨9, [5, 3], .is (.string ⟨(Q).toArray⟩)⟩,
      ⟨10, [3], .is (.slice A l.length c)⟩,
      ⟨11, [7, 3], .bytes (Q)⟩,
      ⟨12, [8, 3], .is (.string ⟨(Q).toArray⟩)⟩,
      ⟨13, [6, 9, 3], .is (.bool true)⟩,
      ⟨14, [10, 3], .is (.bool true)⟩,
      ⟨15, [11], .is (.bool true)⟩,
      ⟨16, [11, 12, 3], .is (.bool true)⟩,
      ⟨17, [3, 13], .is (.bool true)⟩,
      ⟨2, [14], .is (.bool true)⟩]
      [(0, .slice A l.length c)] (by kernel_rfl) (by kernel_rfl) (by kernel_rfl) (by kernel_rfl) (by kernel_rfl) ⟨rfl, trivial⟩ ?_ ?_
    · repeat' (first | exact OblGAll.nil | refine OblGAll.cons ?_ ?_)
      all_goals (intro ev yi w' hB hc hf ho hn; simp only [OutsSay, NeedSay, rowAt, Fact.says, and_true] at ho hn)
      all_goals (try ((simp [OpSays, execOp, Region.wanted, Fact.says, boolOf, go_sem, ho, hn, hc, Below.refl]; done)))
      · rw [if_pos (by simp [Region.wanted])]
        simp [OpSays, execOp, go_sem, Fact.says, hn, hc, Below.refl]
        omega
      · rw [if_pos (by simp [Region.wanted, hn, boolOf])]
        exact says_call Try.call10 (vs := #[.slice A l.length c]) rfl hf (by simp [hn]) ((C1.out w' (HR.out.grow hB)).mono fun _ _ => newQ_says)
      · rw [if_pos (by simp [Region.wanted, hn, boolOf])]
        exact says_str rfl Try.underlying22 Try.underlying5 Try.underlying9 hn.1 ⟨rfl, Below.refl _ _⟩
      · rw [if_pos (by simp [Region.wanted, hn, boolOf])]
        exact says_call Try.call11 (vs := #[.slice A l.length c]) rfl hf (by simp [hn]) ((C2.out w' (HR.out.grow hB)).mono fun _ _ => newQ_says)
      · rw [if_pos (by simp [Region.wanted, hn, boolOf])]
        exact says_str rfl Try.underlying22 Try.underlying5 Try.underlying9 hn.1 ⟨rfl, Below.refl _ _⟩
      · rw [if_pos (by simp [Region.wanted, hn, boolOf])]
        exact says_call Try.call12 (vs := #[]) rfl hf (by simp) ((CK.out w').mono fun _ _ h => ⟨_, h.1, rfl, h.2⟩)
    · intro X w4 hb4 hx
      have hlast : X 15 = .bool true := hx 15 (by decide)
      clear hx
      have HL := Lib.hid hlast
      clear hlast
      simp only [layAll, List.setIfInBounds_toArray, List.set_cons_succ, List.set_cons_zero]
      go_wp2
      go_ret
      exact ⟨congrArg Ending.returned HL.out, hb4⟩
theorem own_none18 (w : World) (base : Nat) (t : TypeId) (hb : base ≤ w.heap.size) : (w.alloc (.cells #[] t)).ownsRow base t 1 (.slice (some ⟨w.heap.size, 0, none⟩) 0 0) 0 [] :=
  ⟨by simp, .inr ⟨w.heap.size, 0, #[], rfl, hb, heap_alloc_new w _, Nat.le_refl _, Nat.zero_le _, rfl, rfl⟩⟩
set_option maxHeartbeats 4000000 in
set_option maxRecDepth 100000 in
theorem ransBack_core (A : Option Addr) (c : Nat) (l : List UInt8) (u : UInt8) (w : World) (hr : Rd w w.heap.size A (bvs l)) (hLc : l.length ≤ c) (hs : l.length ≤ 2000) :
    Calls Try.prog 4 #[.slice A l.length c, .int .u8 (u.toNat : Int)] w (Yes w) := by
  obtain ⟨i0, hi, hz0, hz1, hz2⟩ := info_parts info_u8r
  have CK := Lib.hid ransKnown_any
  have HR := Lib.hid (bytes_row hr rfl hLc)
  obtain ⟨Q, hQ⟩ := ransQ_some (by omega) hr
  have C1 := Lib.hid (fun (W' : World) (h : IsBytes l (.slice A l.length c) W') => ransCode_q hQ (by omega) _ W' h)
  have C2 := Lib.hid (fun (v : Value) (W' : World) (h : IsBytes Q v W') => (ransBack_q hQ (by omega) v W').1 h)
  have C3 := Lib.hid (fun (v : Value) (W' : World) (h : IsBytes (Q ++ [u]) v W') => (ransBack_q hQ (by omega) v W').2 u h)
  have hlenb : Q.length ≤ 20000 := by
    rcases hQ with ⟨-, rfl⟩ | ⟨-, -, h⟩
    · simp
    · exact h
  have hli : (l.length : Int) ≤ 2000 := by omega
  have hu256 := u.toNat_lt
  obtain ⟨un, hun⟩ : ∃ un, un = u.toNat := ⟨_, rfl⟩
  rw [← hun] at hu256 ⊢
  have HUN := Lib.hid hun
  clear hr hQ hun
  go_enter Try.func4, Try.ntmps4
  go_wp2_with fail
  refine (C1.out _ HR.out).mono ?_
  rintro e w1 ⟨v1, rfl, hv1, hb1⟩
  have HV1 := Lib.hid hv1
  have HR1 := Lib.hid (HR.out.grow hb1)
  have HB1 := Lib.hid hb1
  obtain ⟨A1, c1, rfl, hc1, hrq⟩ := hv1
  have HRQ1 := Lib.hid hrq
  clear hrq hb1 C1 HR
  go_wp2_with fail
  refine (C2.out _ _ HV1.out).mono ?_
  rintro e w2 ⟨v2, rfl, hv2, hb2⟩
  have HV2 := Lib.hid hv2
  have HR2 := Lib.hid (HR1.out.grow hb2)
  have HRQ2 := Lib.hid ((HRQ1.out.below hb2).more hb2.size)
  have HB2 := Lib.hid (HB1.out.trans (hb2.mono HB1.out.size))
  clear hv2 hb2 C2 HR1 HRQ1 HB1 HV1
  go_wp2_with (first
    | ((with_reducible show wpList _ _ _ (({ dst := some 26, op := _, type := _, pos := _, after := _, guard := _ } : Oper) :: _) _ _); go_must (refine wpList_app rfl (.tmp 24) (.tmp 25) 22 rfl w2.heap.size 5 i0 (.int .u8 0) 1 1 Try.underlying22 hi hz0 hz1 hz2 rfl (by decide) _ _ _ rfl (own_none18 w2 w2.heap.size 5 (Nat.le_refl _)) w2.heap.size A1 Q.length _ (bvs Q) rfl (HRQ2.out.below ((Below.refl _ _).alloc (Nat.le_refl _) _)) (by rw [bvs_length, Nat.mul_one]) (bvs_one _) (by simp only [maxLen]; omega) (by omega) (by simp) ?_; intro v3 w3 hown3 hg3; have hb3 : Below w2.heap.size w2 w3 := ((Below.refl _ _).alloc (Nat.le_refl _) _).grown hg3 (by simp) (own_block (own_none18 w2 w2.heap.size 5 (Nat.le_refl _))); clear hg3; have HW3 := Lib.hid hown3; have HB3 := Lib.hid hb3; clear hown3 hb3))
    | ((with_reducible show wpList _ _ _ (({ dst := some 29, op := _, type := _, pos := _, after := _, guard := _ } : Oper) :: _) _ _); go_must (refine wpList_app rfl (.tmp 26) (.tmp 28) 22 rfl w2.heap.size 5 i0 (.int .u8 0) 1 1 Try.underlying22 hi hz0 hz1 hz2 rfl (by decide) _ _ _ rfl (HW3.out.alloc _) _ _ 1 1 _ rfl (Rd.new _ #[.int .u8 (un : Int)] _) rfl (by intro u hu; simp at hu; subst hu; rfl) (by simp only [maxLen]; omega) (by omega) (by have := HB3.out.size; simp; omega) ?_; intro v4 w4 hown4 hg4; have hb4 : Below w2.heap.size w2 w4 := (HB3.out.alloc HB3.out.size _).grown hg4 (by have := HB3.out.size; simp; omega) (own_block HW3.out); clear hg4; have HW4 := Lib.hid hown4; have HB4 := Lib.hid hb4; clear hown4 hb4)))
  have hown5 : w4.ownsRow w2.heap.size 5 1 v4 (Q ++ [u]).length (bvs (Q ++ [u])) := by
    have h5 := HW4.out
    rw [List.length_append, bvs_append]
    have e7 : bvs [u] = [.int .u8 (un : Int)] := by rw [HUN.out]; rfl
    rw [e7]
    have e6 : 0 + Q.length + 1 = Q.length + ([u] : List UInt8).length := by simp
    first
      | exact h5
      | (rw [← e6]; exact h5)
      | simpa using h5
      | (trace_state; fail)
  have HV5 := Lib.hid (IsBytes.of_own hown5)
  have HV4 := Lib.hid (HV2.out.grow HB4.out)
  have HR4 := Lib.hid (HR2.out.grow HB4.out)
  have HBB4 := Lib.hid (HB2.out.trans (HB4.out.mono HB2.out.size))
  clear hown5 HW4 HW3 HB3 HB4 HV2 HR2 HB2 HRQ2
  refine (C3.out _ _ HV5.out).mono ?_
  rintro e w5 ⟨v5, rfl, -, hb5⟩
  have HV6 := Lib.hid (HV4.out.grow hb5)
  have HR5 := Lib.hid (HR4.out.grow hb5)
  have HB5 := Lib.hid (HBB4.out.trans (hb5.mono HBB4.out.size))
  clear hb5 C3 HV4 HR4 HBB4 HV5
  go_wp2_with (first
    | ((with_reducible show wpList _ _ _ (({ dst := some 39, op := _, type := _, pos := _, after := _, guard := _ } : Oper) :: _) _ _); go_must (refine wpList_strW rfl 22 9 5 (.tmp 38) rfl Try.underlying22 Try.underlying5 Try.underlying9 _ HV6.out ?_))
    | ((with_reducible show wpList _ _ _ (({ dst := some 41, op := _, type := _, pos := _, after := _, guard := _ } : Oper) :: _) _ _); go_must (refine wpList_strW rfl 22 9 5 (.tmp 40) rfl Try.underlying22 Try.underlying5 Try.underlying9 _ HR5.out ?_)))
  refine (CK.out _).mono ?_
  rintro e w6 ⟨rfl, hb6⟩
  have HB6 := Lib.hid (HB5.out.trans (hb6.mono HB5.out.size))
  clear hb6
  go_wp2
  go_ret
  exact ⟨rfl, HB6.out⟩
theorem ransBack_law (A : Option Addr) (L c : Nat) (l : List UInt8) (u : Nat) (hu : u ≤ 255) (w : World) (hr : Rd w w.heap.size A (bvs l)) (hL : l.length = L) (hLc : L ≤ c) :
    Calls Try.prog 4 #[.slice A L c, .int .u8 (u : Int)] w (Yes w) := by
  subst hL
  by_cases hs : l.length ≤ 2000
  · have e : u = (UInt8.ofNat u).toNat := by simp [UInt8.toNat_ofNat']; omega
    rw [e]
    exact ransBack_core A c l _ w hr hLc hs
  · have hi : (2000 : Int) < (l.length : Int) := by omega
    have CK := Lib.hid ransKnown_any
    clear hr hs
    go_enter Try.func4, Try.ntmps4
    go_wp2_with fail
    refine (CK.out _).mono ?_
    rintro e w' ⟨rfl, hb⟩
    go_wp2
    go_ret
    exact ⟨rfl, hb⟩
/-- make of n noughts, as an equation. -/
theorem make_eq18 {P : Program} {t e : TypeId} {i : TypeInfo} {z : Value} (ht : P.underlying t = some (.slice e)) (hi : P.info? e = some i) (hz : i.zero = some z) (hzs : z.cells = #[z]) (hsize : i.size = 1) (hby : i.bytes ≤ 8) (n : Nat) (hn : n ≤ 1000000) (w : World) :
    (Instr.makeSlice t (.int .i64 (n : Int)) (.int .i64 (n : Int))).run P w = .ok (.slice (some ⟨w.heap.size, 0, none⟩) n n) (w.alloc (.cells (List.replicate n z).toArray e)) := by
  have hbn : ((i.bytes * n : Nat) : Int) ≤ 281474976710656 := by have := Nat.mul_le_mul_right n hby; omega
  rw [Int.natCast_mul] at hbn
  have hrun := run_make (P := P) w t e i z ht hi hz .i64 .i64 n n (by omega) (Int.le_refl _) hbn (by omega)
  simp only [Int.toNat_natCast, hsize, Nat.mul_one, hzs] at hrun
  have hcells : madeCells #[z] n = (List.replicate n z).toArray := by
    apply Array.ext'; rw [toList_madeCells_one]
  rw [hcells] at hrun
  exact hrun
/-- The bytes as they are filled. -/
def fillB (m k : Nat) (c : UInt8) : List UInt8 := List.replicate k c ++ List.replicate (m - k) 0
theorem fillB_set {m k : Nat} (c : UInt8) (h : k < m) : (bvs (fillB m k c)).set k (.int .u8 (c.toNat : Int)) = bvs (fillB m (k + 1) c) := by
  obtain ⟨d, hd⟩ : ∃ d, m - k = d + 1 := ⟨m - k - 1, by omega⟩
  have e : (bvs (fillB m k c)).set k (.int .u8 (c.toNat : Int)) = bvs ((fillB m k c).set k c) := by simp [bvs, List.map_set]
  rw [e]
  unfold fillB
  rw [hd, show m - (k + 1) = d by omega, List.set_append_right _ _ (by simp), List.length_replicate, Nat.sub_self, List.replicate_succ (n := d), List.set_cons_zero, List.replicate_succ' (n := k), List.append_assoc]
  rfl
theorem fillB_at {m k : Nat} (c : UInt8) (h : k < m) : (bvs (fillB m k c))[k]? = some (.int .u8 0) := by
  obtain ⟨d, hd⟩ : ∃ d, m - k = d + 1 := ⟨m - k - 1, by omega⟩
  unfold fillB
  rw [bvs, List.getElem?_map, List.getElem?_append_right (by simp), List.length_replicate, Nat.sub_self, hd]
  rfl
theorem isb_one {cn : Nat} {c : UInt8} (h : cn = c.toNat) (w : World) (t : TypeId) : IsBytes [c] (.slice (some ⟨w.heap.size, 0, none⟩) 1 1) (w.alloc (.cells #[.int .u8 (cn : Int)] t)) := by
  subst h
  exact ⟨_, 1, rfl, by simp, Rd.new w #[.int .u8 (c.toNat : Int)] t⟩
/-- What holds at the head of a round of RansStill. -/
def StRel (w : World) (m B : Nat) (c : UInt8) (i : Value) (wr : World) : Prop :=
  ∃ k : Nat, k ≤ m ∧ i = .int .i64 (k : Int) ∧ Blk wr B 5 (bvs (fillB m k c)) ∧ Below w.heap.size w wr
set_option maxHeartbeats 4000000 in
set_option maxRecDepth 100000 in
theorem ransStill_law (c : UInt8) (n : Nat) (hn : n ≤ 65535) (w : World) :
    Calls Try.prog 5 #[.int .u8 (c.toNat : Int), .int .u16 (n : Int)] w (Yes w) := by
  have CK := Lib.hid ransKnown_any
  obtain ⟨m, hm⟩ : ∃ m, m = 1 + n % 3000 := ⟨_, rfl⟩
  obtain ⟨q, hq⟩ : ∃ q, q = n % 3000 := ⟨_, rfl⟩
  have hqi : (n : Int) % 3000 = (q : Int) := by omega
  have hqt : (n : Int).tmod 3000 = (q : Int) := by rw [Int.tmod_eq_emod_of_nonneg (by omega)]; exact hqi
  have hm0 : 0 < m := by omega
  have hm3 : m ≤ 3000 := by omega
  have hmi : (1 : Int) + (q : Int) = (m : Int) := by omega
  obtain ⟨j0, hj0, hy0, hy1, hy2⟩ := info_parts info_u8r
  have hmk := fun W' => make_eq18 (P := Try.prog) (t := 22) (e := 5) Try.underlying22 hj0 hy0 rfl hy1 (by rw [hy2]; decide) m (by omega) W'
  obtain ⟨Z, hZ⟩ : ∃ Z, Z = (List.replicate m (Value.int .u8 0)).toArray := ⟨_, rfl⟩
  rw [← hZ] at hmk
  have hb1 : Below w.heap.size w (w.alloc (.cells Z 5)) := (Below.refl _ _).alloc (Nat.le_refl _) _
  have hk1 : Blk (w.alloc (.cells Z 5)) w.heap.size 5 (bvs (fillB m 0 c)) := by
    have := heap_alloc_new w (.cells Z 5)
    rw [hZ] at this ⊢
    simpa [Blk, bvs, fillB] using this
  have HREL := Lib.hid (show StRel w m w.heap.size c (.int .i64 ((0 : Nat) : Int)) _ from ⟨0, Nat.zero_le _, rfl, hk1, hb1⟩)
  -- what both are coded as
  have hQ1 : ∃ Q, RansQ [c] Q := ransQ_some (l := [c]) (by simp) (Rd.new w #[.int .u8 (c.toNat : Int)] 5)
  have hQm : ∃ Q, RansQ (List.replicate m c) Q := ransQ_some (l := List.replicate m c) (by rw [List.length_replicate]; omega) (A := some ⟨w.heap.size, 0, none⟩) (w := w.alloc (.cells (bvs (List.replicate m c)).toArray 5)) (by simpa using Rd.new w (bvs (List.replicate m c)).toArray 5)
  obtain ⟨Q, hQ⟩ := hQ1
  obtain ⟨Q', hQ'⟩ := hQm
  have e1 : Q = hPut (rOne c.toNat) ++ [0, 128, 0, 0] := by
    rcases hQ with ⟨h, -⟩ | ⟨-, h, -⟩
    · cases h
    · exact rans_still (m := 1) h (by decide) (by decide)
  have e2 : Q' = hPut (rOne c.toNat) ++ [0, 128, 0, 0] := by
    rcases hQ' with ⟨h, -⟩ | ⟨-, h, -⟩
    · have := congrArg List.length h; rw [List.length_replicate, List.length_nil] at this; omega
    · exact rans_still (m := m) h hm0 (by omega)
  have hlen : Q.length ≤ 9 := by rw [e1]; exact still_len c.toNat_lt
  rw [← e1] at e2
  subst e2
  have C1 := Lib.hid (fun (v : Value) (W' : World) (h : IsBytes [c] v W') => ransCode_q hQ (by simp) v W' h)
  have C2 := Lib.hid (fun (v : Value) (W' : World) (h : IsBytes (List.replicate m c) v W') => ransCode_q hQ' (by rw [List.length_replicate]; omega) v W' h)
  have hleni : (Q'.length : Int) ≤ 9 := by omega
  have HLN := Lib.hid hleni
  obtain ⟨cn, hcn⟩ : ∃ cn, cn = c.toNat := ⟨_, rfl⟩
  have hc256 : cn < 256 := by rw [hcn]; exact c.toNat_lt
  rw [← hcn]
  have HCN := Lib.hid hcn
  have hm3i : (m : Int) ≤ 3000 := by omega
  have hm1i : (0 : Int) < (m : Int) := by omega
  have hqw : IntKind.i64.wrap (q : Int) = (q : Int) := by rw [IntKind.wrap_i64]; omega
  clear hm hq hZ hb1 hk1 hQ hQ' e1 hlen hleni hj0 hy0 hy1 hy2 hcn
  go_enter Try.func5, Try.ntmps5
  go_wp2
  clear hmk hqi hqt hqw
  obtain ⟨g, hg⟩ : ∃ g, g = w.heap.size := ⟨_, rfl⟩
  rw [← hg] at HREL
  simp only [← hg]
  have HG := Lib.hid hg
  clear hg
  go_loopw [7] (StRel w m g c) (fun i _ => m - (intOf i).toNat)
  case atStart => exact HREL.out
  case round =>
    clear HREL
    obtain ⟨k, hk, rfl, hblk, hb⟩ := hrel
    have HB := Lib.hid hb
    clear hb
    by_cases hlt : k < m
    · have hgc := hblk.cell k
      have hgf := hblk.frozen k
      rw [fillB_at c hlt] at hgc
      have hset := hblk.set_ k (.int .u8 (cn : Int))
      have hes := fillB_set c hlt
      rw [← HCN.out] at hes
      rw [hes] at hset
      have HSET := Lib.hid hset
      have HB2 := Lib.hid (HB.out.setCell (p := ⟨g, k, none⟩) (by rw [HG.out]; exact Nat.le_refl _) (.int .u8 (cn : Int)))
      have hki : (k : Int) < (m : Int) := by omega
      clear hset hblk hes
      go_wp2
      go_roundw
      case rel => exact ⟨k + 1, by omega, by go_num, HSET.out, HB2.out⟩
      case measure => simp [intOf]; omega
    · have hmk : m = k := by omega
      subst hmk
      have hfill : fillB m m c = List.replicate m c := by simp [fillB]
      rw [hfill] at hblk
      have HBL := Lib.hid hblk
      clear hblk hfill
      go_wp2_with fail
      refine (C1.out _ _ (isb_one HCN.out _ _)).mono ?_
      rintro e w2 ⟨v, rfl, hv, hb⟩
      obtain ⟨A8, c8, rfl, hc8, hr8⟩ := hv
      have HV := Lib.hid (show IsBytes Q' (.slice A8 Q'.length c8) w2 from ⟨A8, c8, rfl, hc8, hr8⟩)
      have hbb := ((Below.refl _ _).alloc (Nat.le_refl _) _).trans (hb.mono (by simp))
      have HMB := Lib.hid (IsBytes.grow (show IsBytes (List.replicate m c) (.slice (some ⟨g, 0, none⟩) m m) _ from ⟨_, m, by simp, by simp, Rd.of_blk HBL.out⟩) hbb)
      have HB3 := Lib.hid (HB.out.trans (hbb.mono HB.out.size))
      clear hc8 hr8 hb hbb HB HBL C1
      go_wp2
      refine wp_region_grow [⟨27, [], .is (.slice (some ⟨g, 0, none⟩) m m)⟩,
        ⟨28, [0], .bytes (Q')⟩,
        ⟨29, [1], .is (.string ⟨(Q').toArray⟩)⟩,
        ⟨30, [], .is (.slice A8 Q'.length c8)⟩,
        ⟨31, [3], .is (.string ⟨(Q').toArray⟩)⟩,
        ⟨32, [2, 4], .is (.bool true)⟩,
        ⟨33, [5], .is (.bool true)⟩,
        ⟨34, [6], .is (.slice A8 Q'.length c8)⟩,
        ⟨35, [7, 6], .is (.int .i64 (Q'.length : Nat))⟩,
        ⟨36, [8, 6], .is (.bool true)⟩,
        ⟨37, [6, 9], .is (.bool true)⟩,
        ⟨38, [10], .is (.bool true)⟩,
        ⟨39, [11], .is (.bool true)⟩,
        ⟨40, [11, 12], .is (.bool true)⟩,
        ⟨4, [13], .is (.bool true)⟩]
        [(6, .slice (some ⟨g, 0, none⟩) m m), (8, .slice A8 Q'.length c8)] (by kernel_rfl) (by kernel_rfl) (by kernel_rfl) (by kernel_rfl) (by kernel_rfl) ⟨rfl, rfl, trivial⟩ ?_ ?_
      · repeat' (first | exact OblGAll.nil | refine OblGAll.cons ?_ ?_)
        all_goals (intro ev yi w' hB hc hf ho hn; simp only [OutsSay, NeedSay, rowAt, Fact.says, and_true] at ho hn)
        all_goals (try ((simp [OpSays, execOp, Region.wanted, Fact.says, boolOf, go_sem, ho, hn, hc, Below.refl]; done)))
        · rw [if_pos (by simp [Region.wanted])]
          exact says_call Try.call10 (vs := #[.slice (some ⟨g, 0, none⟩) m m]) rfl hf (by simp [hn]) ((C2.out _ w' (HMB.out.grow hB)).mono fun _ _ => newQ_says)
        · rw [if_pos (by simp [Region.wanted])]
          exact says_str rfl Try.underlying22 Try.underlying5 Try.underlying9 hn.1 ⟨rfl, Below.refl _ _⟩
        · rw [if_pos (by simp [Region.wanted])]
          exact says_str rfl Try.underlying22 Try.underlying5 Try.underlying9 (by rw [hn.1]; exact HV.out.grow hB) ⟨rfl, Below.refl _ _⟩
        · rw [if_pos (by simp [Region.wanted, hn, boolOf])]
          simp [OpSays, execOp, go_sem, Fact.says, hn, hc, Below.refl]
          exact HLN.out
        · rw [if_pos (by simp [Region.wanted, hn, boolOf])]
          exact says_call Try.call12 (vs := #[]) rfl hf (by simp) ((CK.out w').mono fun _ _ h => ⟨_, h.1, rfl, h.2⟩)
      · intro X w4 hb4 hx
        have hlast : X 14 = .bool true := hx 14 (by decide)
        clear hx
        have HL := Lib.hid hlast
        clear hlast
        simp only [layAll, List.setIfInBounds_toArray, List.set_cons_succ, List.set_cons_zero]
        go_wp2
        go_ret
        exact ⟨congrArg Ending.returned HL.out, HB3.out.trans (hb4.mono HB3.out.size)⟩
end Go.Proofs.Ytfdgnhfppginiaa
