/- Layer 19: the fixed calls; the laws RiceCodes, RiceDecodes, RiceBack, RiceSmall. -/
import Derived.Test.YtfdgnhfppginiaaRiceLawM
namespace Go.Proofs.Ytfdgnhfppginiaa
open Go.RowKit Go.Sort

theorem k_rice : RiceSays ((1 : Nat) : Int) [3] [6] := by
  have hk : IsK 16 1 4 := ⟨by decide, fun j hj => by
    have h : ∀ j, j < 4 → 1 * 2 ^ j < 16 := by decide
    exact h j hj⟩
  refine .inr ⟨1, riceW (8 * 1) 4 3 ++ [], .inl rfl, rfl, .word 16 1 4 3 [] [] hk (.none _ _), by decide, fun i => ?_⟩
  by_cases h : i < 8
  · have h8 : ∀ j, j < 8 → bitAt [6] j = (riceW (8 * 1) 4 3 ++ [] ++ allBits (restOf 1 [3])).getD j false := by decide
    exact h8 i h
  · have e : (riceW (8 * 1) 4 3 ++ [] ++ allBits (restOf 1 [3])).length = 5 := by decide
    rw [List.getD_eq_getElem?_getD, List.getElem?_eq_none (by omega)]
    obtain ⟨j, hj⟩ : ∃ j, i / 8 = j + 1 := ⟨i / 8 - 1, by omega⟩
    unfold bitAt
    rw [hj]
    simp
theorem newBy_says {w : World} {l : List UInt8} {e : Ending} {w' : World} (h : NewBy w l e w') : ∃ v, e = .returned v ∧ (Fact.bytes l).says v w' ∧ Below w.heap.size w w' := by
  obtain ⟨v, he, hown, hb⟩ := h
  exact ⟨v, he, IsBytes.of_own hown, hb⟩
set_option maxHeartbeats 1000000 in
set_option maxRecDepth 100000 in
theorem riceKnown_any (w : World) : Calls Try.prog 16 #[] w (Yes w) := by
  obtain ⟨⟨o, ho, hout⟩, -⟩ := rice_back (V := 1) (.inl rfl) k_rice
  have c1 := fun (v : Value) (W' : World) (h : IsBytes [6] v W') => riceDec_any (W := 1) (n := 1) (.inl rfl) (by decide) [6] v W' h (by decide) ho
  rw [show riceOut 1 1 o = ([3], 0) from hout] at c1
  have C1 : Hid (∀ (v : Value) (W' : World), IsBytes [6] v W' → Calls Try.prog 17 #[v, .int .i64 1, .int .i64 1] W' (RDSays W' ([3], 0))) := c1
  have C2 : Hid (∀ (v : Value) (W' : World), IsBytes [3] v W' → Calls Try.prog 14 #[v, .int .i64 1] W' (NewBy W' [6])) := fun v W' h => riceCode_says ((1 : Nat) : Int) h (by decide) k_rice
  clear c1 ho hout
  go_enter Try.func16, Try.ntmps16
  go_wp2_with fail
  refine (C1.out _ _ ⟨_, 1, rfl, by decide, Rd.new w _ _⟩).mono ?_
  rintro e w1 ⟨v, rfl, hv, hb⟩
  have HV := Lib.hid hv
  have HB := Lib.hid (((Below.refl _ _).alloc (Nat.le_refl _) _).trans (hb.mono (by simp)))
  clear hv hb C1
  go_wp2_with fail
  refine (C2.out _ _ ⟨_, 1, rfl, by decide, Rd.new w1 _ _⟩).mono ?_
  rintro e w2 ⟨v2, rfl, hown, hb⟩
  have HV2 := Lib.hid (IsBytes.of_own hown)
  have hb2 := ((Below.refl w1.heap.size w1).alloc (Nat.le_refl _) (.cells #[.int .u8 3] 5)).trans (hb.mono (by simp))
  have HV1 := Lib.hid (HV.out.grow hb2)
  have HB2 := Lib.hid (HB.out.trans (hb2.mono HB.out.size))
  clear hown hb hb2 C2 HV HB
  go_wp2_with (first
    | ((with_reducible show wpList _ _ _ (({ dst := some 10, op := _, type := _, pos := _, after := _, guard := _ } : Oper) :: _) _ _); go_must (refine wpList_strW rfl 22 9 5 (.tmp 9) rfl Try.underlying22 Try.underlying5 Try.underlying9 _ HV2.out ?_))
    | ((with_reducible show wpList _ _ _ (({ dst := some 18, op := _, type := _, pos := _, after := _, guard := _ } : Oper) :: _) _ _); go_must (refine wpList_strW rfl 22 9 5 (.tmp 17) rfl Try.underlying22 Try.underlying5 Try.underlying9 _ HV1.out ?_)))
  go_ret
  exact ⟨rfl, HB2.out⟩
set_option maxHeartbeats 2000000 in
set_option maxRecDepth 100000 in
theorem riceCodes_law (W : Int) (A : Option Addr) (L c : Nat) (l : List UInt8) (w : World) (hr : Rd w w.heap.size A (bvs l)) (hL : l.length = L) (hLc : L ≤ c) (hL63 : L ≤ 9223372036854775807) :
    Calls Try.prog 6 #[.slice A L c, .int .i64 W] w (Yes w) := by
  subst hL
  have CK := Lib.hid riceKnown_any
  by_cases h500 : 500 < l.length
  · have h5 : (500 : Int) < (l.length : Int) := by omega
    clear hr
    go_enter Try.func6, Try.ntmps6
    go_wp2
    refine wp_region_grow [⟨5, [], .is (.slice A l.length c)⟩,
      ⟨6, [0], .is (.int .i64 (l.length : Nat))⟩,
      ⟨7, [1], .is (.bool true)⟩,
      ⟨8, [2], .is (.bool true)⟩,
      ⟨9, [3], .is undef⟩,
      ⟨10, [3], .is undef⟩,
      ⟨11, [4, 5, 3], .is undef⟩,
      ⟨12, [6, 3], .is undef⟩,
      ⟨13, [3], .is undef⟩,
      ⟨14, [3], .is undef⟩,
      ⟨15, [8, 9, 3], .is undef⟩,
      ⟨16, [10, 3], .is undef⟩,
      ⟨17, [7, 11, 3], .is undef⟩,
      ⟨18, [12, 3], .is undef⟩,
      ⟨19, [13], .is undef⟩,
      ⟨20, [13, 14, 3], .is undef⟩,
      ⟨21, [3, 15], .is (.bool true)⟩,
      ⟨4, [16], .is (.bool true)⟩]
      [(0, .slice A l.length c), (1, .int .i64 W)] (by kernel_rfl) (by kernel_rfl) (by kernel_rfl) (by kernel_rfl) (by kernel_rfl) ⟨rfl, rfl, trivial⟩ ?_ ?_
    · repeat' (first | exact OblGAll.nil | refine OblGAll.cons ?_ ?_)
      all_goals (intro ev yi w' hB hc hf ho hn; simp only [OutsSay, NeedSay, rowAt, Fact.says, and_true] at ho hn)
      all_goals (try ((simp [OpSays, execOp, Region.wanted, Fact.says, boolOf, go_sem, ho, hn, hc, Below.refl]; done)))
      · rw [if_pos (by simp [Region.wanted])]
        simp [OpSays, execOp, go_sem, Fact.says, hn, hc, Below.refl]
        omega
      · simp [Region.wanted, hn, boolOf, undef, Fact.says]
    · intro X w4 hb4 hx
      have hlast : X 17 = .bool true := hx 17 (by decide)
      clear hx
      have HL := Lib.hid hlast
      clear hlast
      simp only [layAll, List.setIfInBounds_toArray, List.set_cons_succ, List.set_cons_zero]
      go_wp2
      go_ret
      exact ⟨congrArg Ending.returned HL.out, hb4⟩
  · have h5 : ¬ (500 : Int) < (l.length : Int) := by omega
    have HR := Lib.hid (bytes_row hr rfl hLc)
    obtain ⟨Q, hQ⟩ := riceSays_some W l
    have C1 := Lib.hid (fun (W' : World) (h : IsBytes l (.slice A l.length c) W') => riceCode_says W h (by omega) hQ)
    have C2 := Lib.hid (fun (W' : World) (h : IsBytes l (.slice A l.length c) W') => riceRCode_says W h (by omega) hQ)
    clear hr hQ
    go_enter Try.func6, Try.ntmps6
    go_wp2
    refine wp_region_grow [⟨5, [], .is (.slice A l.length c)⟩,
      ⟨6, [0], .is (.int .i64 (l.length : Nat))⟩,
      ⟨7, [1], .is (.bool false)⟩,
      ⟨8, [2], .is (.bool false)⟩,
      ⟨9, [3], .is (.slice A l.length c)⟩,
      ⟨10, [3], .is (.int .i64 W)⟩,
      ⟨11, [4, 5, 3], .bytes (Q)⟩,
      ⟨12, [6, 3], .is (.string ⟨(Q).toArray⟩)⟩,
      ⟨13, [3], .is (.slice A l.length c)⟩,
      ⟨14, [3], .is (.int .i64 W)⟩,
      ⟨15, [8, 9, 3], .bytes (Q)⟩,
      ⟨16, [10, 3], .is (.string ⟨(Q).toArray⟩)⟩,
      ⟨17, [7, 11, 3], .is (.bool true)⟩,
      ⟨18, [12, 3], .is (.bool true)⟩,
      ⟨19, [13], .is (.bool true)⟩,
      ⟨20, [13, 14, 3], .is (.bool true)⟩,
      ⟨21, [3, 15], .is (.bool true)⟩,
      ⟨4, [16], .is (.bool true)⟩]
      [(0, .slice A l.length c), (1, .int .i64 W)] (by kernel_rfl) (by kernel_rfl) (by kernel_rfl) (by kernel_rfl) (by kernel_rfl) ⟨rfl, rfl, trivial⟩ ?_ ?_
    · repeat' (first | exact OblGAll.nil | refine OblGAll.cons ?_ ?_)
      all_goals (intro ev yi w' hB hc hf ho hn; simp only [OutsSay, NeedSay, rowAt, Fact.says, and_true] at ho hn)
      all_goals (try ((simp [OpSays, execOp, Region.wanted, Fact.says, boolOf, go_sem, ho, hn, hc, Below.refl]; done)))
      · rw [if_pos (by simp [Region.wanted])]
        simp [OpSays, execOp, go_sem, Fact.says, hn, hc, Below.refl]
        omega
      · rw [if_pos (by simp [Region.wanted, hn, boolOf])]
        exact says_call Try.call14 (vs := #[.slice A l.length c, .int .i64 W]) rfl hf (by simp [hn]) ((C1.out w' (HR.out.grow hB)).mono fun _ _ => newBy_says)
      · rw [if_pos (by simp [Region.wanted, hn, boolOf])]
        exact says_str rfl Try.underlying22 Try.underlying5 Try.underlying9 hn.1 ⟨rfl, Below.refl _ _⟩
      · rw [if_pos (by simp [Region.wanted, hn, boolOf])]
        exact says_call Try.call15 (vs := #[.slice A l.length c, .int .i64 W]) rfl hf (by simp [hn]) ((C2.out w' (HR.out.grow hB)).mono fun _ _ => newBy_says)
      · rw [if_pos (by simp [Region.wanted, hn, boolOf])]
        exact says_str rfl Try.underlying22 Try.underlying5 Try.underlying9 hn.1 ⟨rfl, Below.refl _ _⟩
      · rw [if_pos (by simp [Region.wanted, hn, boolOf])]
        exact says_call Try.call16 (vs := #[]) rfl hf (by simp) ((CK.out w').mono fun _ _ h => ⟨_, h.1, rfl, h.2⟩)
    · intro X w4 hb4 hx
      have hlast : X 17 = .bool true := hx 17 (by decide)
      clear hx
      have HL := Lib.hid hlast
      clear hlast
      simp only [layAll, List.setIfInBounds_toArray, List.set_cons_succ, List.set_cons_zero]
      go_wp2
      go_ret
      exact ⟨congrArg Ending.returned HL.out, hb4⟩
set_option maxHeartbeats 2000000 in
set_option maxRecDepth 100000 in
theorem riceDecodes_law (W n : Int) (A : Option Addr) (L c : Nat) (l : List UInt8) (w : World) (hr : Rd w w.heap.size A (bvs l)) (hL : l.length = L) (hLc : L ≤ c) (hL63 : L ≤ 9223372036854775807) :
    Calls Try.prog 7 #[.slice A L c, .int .i64 W, .int .i64 n] w (Yes w) := by
  subst hL
  have CK := Lib.hid riceKnown_any
  by_cases h300 : 300 < l.length
  · have h3 : (300 : Int) < (l.length : Int) := by omega
    clear hr
    go_enter Try.func7, Try.ntmps7
    go_wp2_with fail
    refine (CK.out _).mono ?_
    rintro e w' ⟨rfl, hb⟩
    go_wp2
    go_ret
    exact ⟨rfl, hb⟩
  · have h3 : ¬ (300 : Int) < (l.length : Int) := by omega
    have HR := Lib.hid (bytes_row hr rfl hLc)
    obtain ⟨Q, h1, h2⟩ : ∃ Q : List UInt8 × Nat, (∀ (v : Value) (W' : World), IsBytes l v W' → Calls Try.prog 17 #[v, .int .i64 W, .int .i64 n] W' (RDSays W' Q)) ∧ ∀ (v : Value) (W' : World), IsBytes l v W' → Calls Try.prog 18 #[v, .int .i64 W, .int .i64 n] W' (RDSays W' Q) := by
      by_cases hm : mayR W n
      · obtain ⟨hW, h0, hn⟩ := hm
        obtain ⟨V, rfl, hV⟩ := isW_of hW
        obtain ⟨k, rfl⟩ := Int.eq_ofNat_of_zero_le h0
        obtain ⟨o, ho⟩ := riceR_some (D := 8 * V) (k / V) 16 1 (allBits l, 0) (counts_start (D_le hV).1)
        exact ⟨riceOut V k o, fun v W' h => riceDec_any hV (by omega) l v W' h (by omega) ho, fun v W' h => riceRDec_any hV (by omega) l v W' h (by omega) ho⟩
      · exact ⟨([], 2), fun v W' _ => (riceDec_arg W n hm v W').mono fun _ w2 h => ⟨_, h.1, isBytes_nil _, by rw [h.2]; exact Below.refl _ _⟩, fun v W' _ => (riceRDec_arg W n hm v W').mono fun _ w2 h => ⟨_, h.1, isBytes_nil _, by rw [h.2]; exact Below.refl _ _⟩⟩
    obtain ⟨q, E⟩ := Q
    have C1 := Lib.hid h1
    have C2 := Lib.hid h2
    clear hr h1 h2 h300
    go_enter Try.func7, Try.ntmps7
    go_wp2_with fail
    refine (C1.out _ _ HR.out).mono ?_
    rintro e w1 ⟨v1, rfl, hv1, hb1⟩
    have HR1 := Lib.hid (HR.out.grow hb1)
    have HV1 := Lib.hid hv1
    have HB1 := Lib.hid hb1
    clear hv1 hb1 C1 HR
    go_wp2_with fail
    refine (C2.out _ _ HR1.out).mono ?_
    rintro e w2 ⟨v2, rfl, hv2, hb2⟩
    have HA := Lib.hid (HV1.out.grow hb2)
    have HC := Lib.hid hv2
    have HB2 := Lib.hid (HB1.out.trans (hb2.mono HB1.out.size))
    clear hv2 hb2 C2 HR1 HV1 HB1
    go_wp2_with (first
      | ((with_reducible show wpList _ _ _ (({ dst := some 30, op := _, type := _, pos := _, after := _, guard := _ } : Oper) :: _) _ _); go_must (refine wpList_strW rfl 22 9 5 (.tmp 29) rfl Try.underlying22 Try.underlying5 Try.underlying9 _ HA.out ?_))
      | ((with_reducible show wpList _ _ _ (({ dst := some 32, op := _, type := _, pos := _, after := _, guard := _ } : Oper) :: _) _ _); go_must (refine wpList_strW rfl 22 9 5 (.tmp 31) rfl Try.underlying22 Try.underlying5 Try.underlying9 _ HC.out ?_)))
    refine (CK.out _).mono ?_
    rintro e w3 ⟨rfl, hb3⟩
    have HB3 := Lib.hid (HB2.out.trans (hb3.mono HB2.out.size))
    clear hb3
    go_wp2
    go_ret
    exact ⟨rfl, HB3.out⟩
theorem own_none19 (w : World) (base : Nat) (t : TypeId) (hb : base ≤ w.heap.size) : (w.alloc (.cells #[] t)).ownsRow base t 1 (.slice (some ⟨w.heap.size, 0, none⟩) 0 0) 0 [] :=
  ⟨by simp, .inr ⟨w.heap.size, 0, #[], rfl, hb, heap_alloc_new w _, Nat.le_refl _, Nat.zero_le _, rfl, rfl⟩⟩
set_option maxHeartbeats 4000000 in
set_option maxRecDepth 100000 in
theorem riceBack_core {V : Nat} (hV : IsW V) (A : Option Addr) (c : Nat) (l : List UInt8) (u : Nat) (w : World) (hr : Rd w w.heap.size A (bvs l)) (hLc : l.length ≤ c) (hs : l.length ≤ 1500) (hw : wrap64 (2 ^ (u % 4)) = (V : Int)) :
    Calls Try.prog 8 #[.slice A l.length c, .int .u8 (u : Int)] w (Yes w) := by
  obtain ⟨i0, hi, hz0, hz1, hz2⟩ := info_parts info_u8n
  have CK := Lib.hid riceKnown_any
  have HR := Lib.hid (bytes_row hr rfl hLc)
  obtain ⟨Q, hQ⟩ := riceSays_some (V : Int) l
  have C1 := Lib.hid (fun (W' : World) (h : IsBytes l (.slice A l.length c) W') => riceCode_says (V : Int) h (by omega) hQ)
  obtain ⟨⟨o1, ho1, hout1⟩, o2, ho2, hout2⟩ := rice_back hV hQ
  have hlen := rice_len hV hQ
  obtain ⟨nw, hnw⟩ : ∃ nw, nw = l.length / V := ⟨_, rfl⟩
  have hnle : nw ≤ l.length := by rw [hnw]; exact Nat.div_le_self _ _
  have hp := hV.pos
  have c2 := fun (v : Value) (W' : World) (h : IsBytes Q v W') => riceDec_any hV (n := l.length) (by omega) Q v W' h (by omega) ho1
  have c3 := fun (v : Value) (W' : World) (h : IsBytes (Q ++ [0]) v W') => riceDec_any hV (n := l.length) (by omega) (Q ++ [0]) v W' h (by rw [List.length_append]; simp; omega) ho2
  rw [hout1] at c2
  rw [hout2] at c3
  have C2 := Lib.hid c2
  have C3 := Lib.hid c3
  have hdi : (l.length : Int) / (V : Int) = (nw : Int) := by rw [hnw]; exact (Int.natCast_ediv _ _).symm
  have hdt : (l.length : Int).tdiv (V : Int) = (nw : Int) := by rw [Int.tdiv_eq_ediv_of_nonneg (by omega)]; exact hdi
  rw [← hnw] at hlen
  have hlenb : Q.length ≤ 6000 := by omega
  have hlei : (Q.length : Int) ≤ (l.length : Int) + 3 * (nw : Int) := by omega
  have hV0 : ¬ (V : Int) = 0 := by omega
  have hnwi : (nw : Int) ≤ 1500 := by omega
  have hli : (l.length : Int) ≤ 1500 := by omega
  have hd1 : (0 : Int) ≤ (nw : Int) := by omega
  clear hr hQ ho1 ho2 hout1 hout2 c2 c3 hlen hnw hnle hp hV
  go_enter Try.func8, Try.ntmps8
  go_wp2_with fail
  simp only [hw]
  clear hw
  refine (C1.out _ HR.out).mono ?_
  rintro e w1 ⟨v1, rfl, hown1, hb1⟩
  have HV1 := Lib.hid (IsBytes.of_own hown1)
  have HR1 := Lib.hid (HR.out.grow hb1)
  have HB1 := Lib.hid hb1
  obtain ⟨A1, c1, rfl, -, -, -⟩ := own_form hown1
  have HRQ1 := Lib.hid (Rd.of_own hown1)
  clear hown1 hb1 C1 HR
  go_wp2_with fail
  refine (C2.out _ _ HV1.out).mono ?_
  rintro e w2 ⟨v2, rfl, hv2, hb2⟩
  have HV2 := Lib.hid hv2
  have HR2 := Lib.hid (HR1.out.grow hb2)
  have HRQ2 := Lib.hid ((HRQ1.out.below hb2).more hb2.size)
  have HB2 := Lib.hid (HB1.out.trans (hb2.mono HB1.out.size))
  clear hv2 hb2 C2 HR1 HRQ1 HB1 HV1
  go_wp2_with (first
    | ((with_reducible show wpList _ _ _ (({ dst := some 32, op := _, type := _, pos := _, after := _, guard := _ } : Oper) :: _) _ _); go_must (refine wpList_app rfl (.tmp 30) (.tmp 31) 22 rfl w2.heap.size 5 i0 (.int .u8 0) 1 1 Try.underlying22 hi hz0 hz1 hz2 rfl (by decide) _ _ _ rfl (own_none19 w2 w2.heap.size 5 (Nat.le_refl _)) w2.heap.size A1 Q.length _ (bvs Q) rfl (HRQ2.out.below ((Below.refl _ _).alloc (Nat.le_refl _) _)) (by rw [bvs_length, Nat.mul_one]) (bvs_one _) (by simp only [maxLen]; omega) (by omega) (by simp) ?_; intro v3 w3 hown3 hg3; have hb3 : Below w2.heap.size w2 w3 := ((Below.refl _ _).alloc (Nat.le_refl _) _).grown hg3 (by simp) (own_block (own_none19 w2 w2.heap.size 5 (Nat.le_refl _))); clear hg3; have HW3 := Lib.hid hown3; have HB3 := Lib.hid hb3; clear hown3 hb3))
    | ((with_reducible show wpList _ _ _ (({ dst := some 34, op := _, type := _, pos := _, after := _, guard := _ } : Oper) :: _) _ _); go_must (refine wpList_app rfl (.tmp 32) (.tmp 33) 22 rfl w2.heap.size 5 i0 (.int .u8 0) 1 1 Try.underlying22 hi hz0 hz1 hz2 rfl (by decide) _ _ _ rfl (HW3.out.alloc _) _ _ 1 1 _ rfl (Rd.new _ #[.int .u8 0] _) rfl (by intro u hu; simp at hu; subst hu; rfl) (by simp only [maxLen]; omega) (by omega) (by have := HB3.out.size; simp; omega) ?_; intro v4 w4 hown4 hg4; have hb4 : Below w2.heap.size w2 w4 := (HB3.out.alloc HB3.out.size _).grown hg4 (by have := HB3.out.size; simp; omega) (own_block HW3.out); clear hg4; have HW4 := Lib.hid hown4; have HB4 := Lib.hid hb4; clear hown4 hb4)))
  have hown5 : w4.ownsRow w2.heap.size 5 1 v4 (Q ++ [0]).length (bvs (Q ++ [0])) := by
    have h5 := HW4.out
    rw [List.length_append, bvs_append]
    have e6 : 0 + Q.length + 1 = Q.length + ([0] : List UInt8).length := by simp
    first
      | exact h5
      | (rw [← e6]; exact h5)
      | simpa using h5
      | (trace_state; fail)
  have HV5 := Lib.hid (IsBytes.of_own hown5)
  have HV4 := Lib.hid (HV2.out.grow HB4.out)
  have HR4 := Lib.hid (HR2.out.grow HB4.out)
  have HBB4 := Lib.hid (HB2.out.trans (HB4.out.mono HB2.out.size))
  clear hown5 HW4 HW3 HB3 HB4 HV2 HR2 HB2 HRQ2
  refine (C3.out _ _ HV5.out).mono ?_
  rintro e w5 ⟨v5, rfl, -, hb5⟩
  have HV6 := Lib.hid (HV4.out.grow hb5)
  have HR5 := Lib.hid (HR4.out.grow hb5)
  have HB5 := Lib.hid (HBB4.out.trans (hb5.mono HBB4.out.size))
  clear hb5 C3 HV4 HR4 HBB4 HV5
  go_wp2_with (first
    | ((with_reducible show wpList _ _ _ (({ dst := some 45, op := _, type := _, pos := _, after := _, guard := _ } : Oper) :: _) _ _); go_must (refine wpList_strW rfl 22 9 5 (.tmp 44) rfl Try.underlying22 Try.underlying5 Try.underlying9 _ HV6.out ?_))
    | ((with_reducible show wpList _ _ _ (({ dst := some 47, op := _, type := _, pos := _, after := _, guard := _ } : Oper) :: _) _ _); go_must (refine wpList_strW rfl 22 9 5 (.tmp 46) rfl Try.underlying22 Try.underlying5 Try.underlying9 _ HR5.out ?_)))
  refine (CK.out _).mono ?_
  rintro e w6 ⟨rfl, hb6⟩
  have HB6 := Lib.hid (HB5.out.trans (hb6.mono HB5.out.size))
  clear hb6
  go_wp2
  go_ret
  exact ⟨rfl, HB6.out⟩
theorem riceBack_law (A : Option Addr) (L c : Nat) (l : List UInt8) (u : Nat) (w : World) (hr : Rd w w.heap.size A (bvs l)) (hL : l.length = L) (hLc : L ≤ c) :
    Calls Try.prog 8 #[.slice A L c, .int .u8 (u : Int)] w (Yes w) := by
  subst hL
  by_cases hs : l.length ≤ 1500
  · obtain ⟨V, hV, hw⟩ := width_of u
    exact riceBack_core hV A c l u w hr hLc hs hw
  · have hi : (1500 : Int) < (l.length : Int) := by omega
    have CK := Lib.hid riceKnown_any
    clear hr hs
    go_enter Try.func8, Try.ntmps8
    go_wp2_with fail
    refine (CK.out _).mono ?_
    rintro e w' ⟨rfl, hb⟩
    go_wp2
    go_ret
    exact ⟨rfl, hb⟩
set_option maxHeartbeats 4000000 in
set_option maxRecDepth 100000 in
theorem riceSmall_core {V : Nat} (hV : IsW V) (n u : Nat) (hn : n ≤ 65535) (w : World) (hw : wrap64 (2 ^ (u % 4)) = (V : Int)) :
    Calls Try.prog 9 #[.int .u16 (n : Int), .int .u8 (u : Int)] w (Yes w) := by
  have CK := Lib.hid riceKnown_any
  obtain ⟨q, hq⟩ : ∃ q, q = n % 500 := ⟨_, rfl⟩
  have hqi : (n : Int) % 500 = (q : Int) := by omega
  have hqt : (n : Int).tmod 500 = (q : Int) := by rw [Int.tmod_eq_emod_of_nonneg (by omega)]; exact hqi
  have hq5 : q < 500 := by omega
  have hp := hV.pos
  have hm4 : q * V ≤ 4000 := by have := Nat.mul_le_mul (show q ≤ 499 by omega) hp.2; omega
  obtain ⟨Q, hQ⟩ := riceSays_some (V : Int) (List.replicate (q * V) 0)
  have hle := rice_zeros hV hQ
  have hqb : q * V / V = q := Nat.mul_div_cancel q (by omega)
  obtain ⟨m, hm⟩ : ∃ m, m = q * V := ⟨_, rfl⟩
  rw [← hm] at hQ hqb hm4
  have C1 := Lib.hid (fun (v : Value) (W' : World) (h : IsBytes (List.replicate m 0) v W') => riceCode_says (V : Int) h (by rw [List.length_replicate]; omega) hQ)
  have hmi : (q : Int) * (V : Int) = (m : Int) := by rw [hm, Int.natCast_mul]
  have hmw : IntKind.i64.wrap (m : Int) = (m : Int) := by rw [IntKind.wrap_i64]; omega
  have hmi2 : IntKind.i64.wrap ((q : Int) * (V : Int)) = (m : Int) := by rw [hmi]; exact hmw
  have hdi : (m : Int) / (V : Int) = (q : Int) := by rw [← hqb]; exact (Int.natCast_ediv _ _).symm
  obtain ⟨q8, hq8⟩ : ∃ q8, q8 = q / 8 := ⟨_, rfl⟩
  rw [← hq8] at hle
  have hdi8 : (q : Int) / 8 = (q8 : Int) := by omega
  have hdt : (m : Int).tdiv (V : Int) = (q : Int) := by rw [Int.tdiv_eq_ediv_of_nonneg (by omega)]; exact hdi
  have hdt8 : (q : Int).tdiv 8 = (q8 : Int) := by rw [Int.tdiv_eq_ediv_of_nonneg (by omega)]; exact hdi8
  have hqw : IntKind.i64.wrap (q : Int) = (q : Int) := by rw [IntKind.wrap_i64]; omega
  have hq8w : IntKind.i64.wrap (q8 : Int) = (q8 : Int) := by rw [IntKind.wrap_i64]; omega
  obtain ⟨T, hT⟩ : ∃ T, T = 20 + q8 := ⟨_, rfl⟩
  have hTw : IntKind.i64.wrap (20 + (q8 : Int)) = (T : Int) := by rw [IntKind.wrap_i64]; omega
  have hQT : (Q.length : Int) ≤ (T : Int) := by omega
  have hVn : ¬ V = 0 := by omega
  obtain ⟨j0, hj0, hy0, hy1, hy2⟩ := info_parts info_u8n
  have hmk := fun W' => make_eq (P := Try.prog) (t := 22) (e := 5) Try.underlying22 hj0 hy0 rfl hy1 (by rw [hy2]; decide) m (by omega) W'
  have hzb : ∀ W' : World, IsBytes (List.replicate m 0) (.slice (some ⟨W'.heap.size, 0, none⟩) m m) (W'.alloc (.cells (List.replicate m (Value.int .u8 0)).toArray 5)) := fun W' => by
    refine ⟨_, m, by rw [List.length_replicate], by rw [List.length_replicate]; exact Nat.le_refl _, ?_⟩
    have h := Rd.new W' (List.replicate m (Value.int .u8 0)).toArray 5
    simpa [bvs] using h
  have HMK := Lib.hid hmk
  have HZB := Lib.hid hzb
  clear hQ hm hle hqb hq8 hT hj0 hy0 hy1 hy2 hmk hzb hV hq
  have hqlt : (q : Int) < 500 := by omega
  have hm4i : (m : Int) ≤ 4000 := by omega
  have hV8 : (V : Int) ≤ 8 := by omega
  have hV1 : (1 : Int) ≤ (V : Int) := by omega
  have HD := Lib.hid (And.intro hdi (And.intro hdi8 (And.intro hdt (And.intro hdt8 (And.intro hqw (And.intro hq8w (And.intro hTw (And.intro hQT hmw))))))))
  clear hdi hdi8 hdt hdt8 hqw hq8w hTw hQT hmw hp
  go_enter Try.func9, Try.ntmps9
  go_wp2_with fail
  simp only [hw]
  clear hw
  obtain ⟨hdi, hdi8, hdt, hdt8, hqw, hq8w, hTw, hQT, hmw⟩ := HD.out
  refine wp_region_grow [⟨15, [], .is (.int .i64 (m : Int))⟩,
    ⟨16, [0], .bytes (List.replicate m 0)⟩,
    ⟨17, [], .is (.int .i64 (V : Int))⟩,
    ⟨18, [1, 2], .bytes (Q)⟩,
    ⟨19, [3], .is (.int .i64 (Q.length : Nat))⟩,
    ⟨20, [], .is (.int .i64 (m : Int))⟩,
    ⟨21, [], .is (.int .i64 (V : Int))⟩,
    ⟨22, [5, 6], .is (.int .i64 (q : Int))⟩,
    ⟨23, [7], .is (.int .i64 (q8 : Int))⟩,
    ⟨24, [8], .is (.int .i64 (T : Int))⟩,
    ⟨25, [4, 9], .is (.bool true)⟩,
    ⟨26, [10], .is (.bool true)⟩,
    ⟨27, [11], .is (.bool true)⟩,
    ⟨28, [11, 12], .is (.bool true)⟩,
    ⟨4, [13], .is (.bool true)⟩]
    [(6, .int .i64 (m : Int)), (5, .int .i64 (V : Int))] (by kernel_rfl) (by kernel_rfl) (by kernel_rfl) (by kernel_rfl) (by kernel_rfl) ⟨rfl, rfl, trivial⟩ ?_ ?_
  · repeat' (first | exact OblGAll.nil | refine OblGAll.cons ?_ ?_)
    all_goals (intro ev yi w' hB hc hf ho hn; simp only [OutsSay, NeedSay, rowAt, Fact.says, and_true] at ho hn)
    all_goals (try ((simp [OpSays, execOp, Region.wanted, Fact.says, boolOf, go_sem, ho, hn, hc, Below.refl]; done)))
    · rw [if_pos (by simp [Region.wanted])]
      simp [OpSays, execOp, go_sem, Fact.says, hn, HMK.out w']
      exact ⟨HZB.out w', (Below.refl _ _).alloc (Nat.le_refl _) _⟩
    · rw [if_pos (by simp [Region.wanted])]
      exact says_call Try.call14 (vs := #[ev (.tmp 16), .int .i64 (V : Int)]) rfl hf (by simp [hn]) ((C1.out _ w' hn.1).mono fun _ _ => newBy_says)
    · rw [if_pos (by simp [Region.wanted])]
      obtain ⟨Ax, cx, hv, -, -⟩ := hn.1
      simp [OpSays, go_sem, Fact.says, hv, Below.refl]
    · rw [if_pos (by simp [Region.wanted])]
      simp [OpSays, execOp, go_sem, Fact.says, hn, hVn, Below.refl]
      rw [hdi]; exact hqw
    · rw [if_pos (by simp [Region.wanted])]
      simp [OpSays, execOp, go_sem, Fact.says, hn, hc, Below.refl]
      rw [hdi8]; exact hq8w
    · rw [if_pos (by simp [Region.wanted])]
      simp [OpSays, execOp, go_sem, Fact.says, hn, hc, Below.refl]
      exact hTw
    · rw [if_pos (by simp [Region.wanted])]
      simp [OpSays, execOp, go_sem, Fact.says, hn, Below.refl]
      omega
    · rw [if_pos (by simp [Region.wanted, hn, boolOf])]
      exact says_call Try.call16 (vs := #[]) rfl hf (by simp) ((CK.out w').mono fun _ _ h => ⟨_, h.1, rfl, h.2⟩)
  · intro X w4 hb4 hx
    have hlast : X 14 = .bool true := hx 14 (by decide)
    clear hx
    have HL := Lib.hid hlast
    clear hlast
    simp only [layAll, List.setIfInBounds_toArray, List.set_cons_succ, List.set_cons_zero]
    go_wp2
    go_ret
    exact ⟨congrArg Ending.returned HL.out, hb4⟩
theorem riceSmall_law (n u : Nat) (hn : n ≤ 65535) (w : World) : Calls Try.prog 9 #[.int .u16 (n : Int), .int .u8 (u : Int)] w (Yes w) := by
  obtain ⟨V, hV, hw⟩ := width_of u
  exact riceSmall_core hV n u hn w hw
end Go.Proofs.Ytfdgnhfppginiaa
