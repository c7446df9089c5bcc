/- Layer 26: the fixed calls. · Layer 26: the law BlendBack. -/
import Derived.Test.YtgbibmgedmbboaaBlendBk
import Derived.Lib.SlBytesConst
namespace Go.Proofs.Ytgbibmgedmbboaa
open Go.RowKit Go.Sort

theorem moves_zero : Moves 0 16777215 [0] 0 4294967040 :=
  .move 0 16777215 [] 0 4294967040 (.inl (by unfold SameB; omega)) (by
    have h : cutR 0 16777215 = 16777215 := by unfold cutR; rw [if_pos (by unfold SameB; omega)]
    rw [h]
    exact .stop _ _ (by unfold SameB; omega) (by omega))
theorem letP_zero : letP noneF 0 = ⟨0, 1, 256⟩ := by
  unfold letP
  rw [fPre_zero, show noneF.getD 0 0 = 1 from rfl, show noneF.sum = 256 from ones_sum 256]
  rfl
/-- One nought, coded letter by letter: five noughts. -/
theorem k_zero : BldQ letWay noneF [0] [0, 0, 0, 0, 0] := by
  refine .inr ⟨by simp, [0, 0, 0, 0, 0], ?_, by decide, by decide⟩
  show Laid 0 4294967295 ([letP noneF 0] ++ []) ([0] ++ be4 0)
  rw [letP_zero]
  exact .part 0 4294967295 ⟨0, 1, 256⟩ [] [0] (be4 0) 0 4294967040 moves_zero (.last _ _)
/-- make of n noughts, as an equation. -/
theorem make_eq26 {P : Program} {t e : TypeId} {i : TypeInfo} {z : Value} (ht : P.underlying t = some (.slice e)) (hi : P.info? e = some i) (hz : i.zero = some z) (hzs : z.cells = #[z]) (hsize : i.size = 1) (hby : i.bytes ≤ 8) (n : Nat) (hn : n ≤ 1000000) (w : World) :
    (Instr.makeSlice t (.int .i64 (n : Int)) (.int .i64 (n : Int))).run P w = .ok (.slice (some ⟨w.heap.size, 0, none⟩) n n) (w.alloc (.cells (List.replicate n z).toArray e)) := by
  have hbn : ((i.bytes * n : Nat) : Int) ≤ 281474976710656 := by have := Nat.mul_le_mul_right n hby; omega
  rw [Int.natCast_mul] at hbn
  have hrun := run_make (P := P) w t e i z ht hi hz .i64 .i64 n n (by omega) (Int.le_refl _) hbn (by omega)
  simp only [Int.toNat_natCast, hsize, Nat.mul_one, hzs] at hrun
  have hcells : madeCells #[z] n = (List.replicate n z).toArray := by
    apply Array.ext'; rw [toList_madeCells_one]
  rw [hcells] at hrun
  exact hrun
theorem rd_newF (w : World) (cs : Array Value) (t : TypeId) (fr : Nat × Nat) : Rd (w.alloc (.cells cs t fr)) (w.alloc (.cells cs t fr)).heap.size (some ⟨w.heap.size, 0, none⟩) cs.toList := fun k u hu => by
  refine ⟨w.heap.size, 0, rfl, by simp, ?_⟩
  rw [Nat.zero_add, World.cell?_alloc_mark]
  rw [← hu]; simp
theorem newBl_says {w : World} {Q : List UInt8} {e : Ending} {w' : World} (h : NewBl w Q e w') : ∃ v, e = .returned v ∧ (Fact.bytes Q).says v w' ∧ Below w.heap.size w w' := h
set_option maxHeartbeats 2000000 in
set_option maxRecDepth 100000 in
theorem blendKnown_any (w : World) : Calls Try.prog 4 #[] w (Yes w) := by
  obtain ⟨QA, hQA⟩ := bldQ_some bitWay newD_ok [97, 98] (by decide)
  have C1 : Hid (∀ (v : Value) (W' : World), IsBytes [97, 98] v W' → Calls Try.prog 5 #[v] W' (NewBl W' QA)) := fun v W' h => blendCode_q hQA (by decide) v h
  have C2 : Hid (∀ (v : Value) (W' : World), IsBytes QA v W' → Calls Try.prog 7 #[v, .int .i64 2] W' (DecBl W' [97, 98] 0)) := fun v W' h => blendDecode_q (X := []) hQA (by decide) (by decide) v (by rw [List.append_nil]; exact h)
  have C3 : Hid (∀ (v : Value) (W' : World), IsBytes [0, 0, 0, 0, 0] v W' → Calls Try.prog 8 #[v, .int .i64 1] W' (DecBl W' [0] 0)) := fun v W' h => blendAdapted_q (l := [0]) (X := []) k_zero (by decide) (by decide) v h
  have C4 : Hid (∀ (v : Value) (W' : World), IsBytes [0] v W' → Calls Try.prog 6 #[v] W' (NewBl W' [0, 0, 0, 0, 0])) := fun v W' h => blendAdapt_q k_zero (by decide) v h
  obtain ⟨j0, hj0, hy0, hy1, hy2⟩ := info_parts info_u8r
  have hmk : ∀ W' : World, (Instr.makeSlice 22 (.int .i64 5) (.int .i64 5)).run Try.prog W' = .ok (.slice (some ⟨W'.heap.size, 0, none⟩) 5 5) (W'.alloc (.cells #[.int .u8 0, .int .u8 0, .int .u8 0, .int .u8 0, .int .u8 0] 5)) := fun W' => make_eq26 (P := Try.prog) (t := 22) (e := 5) Try.underlying22 hj0 hy0 rfl hy1 (by rw [hy2]; decide) 5 (by decide) W'
  have HMK := Lib.hid hmk
  have hcv := fun (w : World) (C : Array Value) (n c : Nat) => Lib.run_convert_bytes_const (P := Try.prog) w 22 5 C n c Try.underlying22 Try.underlying5
  clear hQA hj0 hy0 hy1 hy2 hmk
  go_enter Try.func4, Try.ntmps4
  go_wp2_with fail
  have hk2 : IsBytes [97, 98] (.slice (some ⟨w.heap.size, 0, none⟩) 2 2) (w.alloc (.cells #[.int .u8 97, .int .u8 98] 5 (2, 3))) := ⟨_, 2, rfl, by decide, rd_newF w #[.int .u8 97, .int .u8 98] _ _⟩
  refine (C1.out _ _ hk2).mono ?_
  rintro e w1 ⟨v, rfl, hv, hb⟩
  have HV := Lib.hid hv
  have HB := Lib.hid (((Below.refl _ _).alloc (Nat.le_refl _) _).trans (hb.mono (by simp)))
  clear hv hb C1 hk2 hcv
  go_wp2_with fail
  refine (C2.out _ _ HV.out).mono ?_
  rintro e w2 ⟨v1, rfl, hv, hb⟩
  have HV1 := Lib.hid hv
  have HB1 := Lib.hid (HB.out.trans (hb.mono HB.out.size))
  have hm2 := HMK.out w2
  clear hv hb C2 HV HB
  go_wp2_with fail
  have hk5 : IsBytes [0, 0, 0, 0, 0] (.slice (some ⟨w2.heap.size, 0, none⟩) 5 5) (w2.alloc (.cells #[.int .u8 0, .int .u8 0, .int .u8 0, .int .u8 0, .int .u8 0] 5)) := ⟨_, 5, rfl, by decide, Rd.new w2 #[.int .u8 0, .int .u8 0, .int .u8 0, .int .u8 0, .int .u8 0] _⟩
  refine (C3.out _ _ hk5).mono ?_
  rintro e w3 ⟨v3, rfl, hv, hb⟩
  have HV3 := Lib.hid hv
  have hb3 := ((Below.refl _ _).alloc (Nat.le_refl _) _).trans (hb.mono (by simp))
  have HV2 := Lib.hid (HV1.out.grow hb3)
  have HB3 := Lib.hid (HB1.out.trans (hb3.mono HB1.out.size))
  clear hv hb hb3 C3 HV1 HB1 hm2 hk5
  go_wp2
  refine wp_region_grow [⟨17, [], .is (.int .i64 0)⟩,
    ⟨18, [0], .is (.bool true)⟩,
    ⟨19, [1], .is (.bool true)⟩,
    ⟨20, [2], .is (v1)⟩,
    ⟨21, [3, 2], .is (.string ⟨#[97, 98]⟩)⟩,
    ⟨22, [4, 2], .is (.bool true)⟩,
    ⟨23, [2, 5], .is (.bool true)⟩,
    ⟨24, [6], .is (.bool true)⟩,
    ⟨25, [7], .is (.int .i64 0)⟩,
    ⟨26, [8, 7], .is (.bool true)⟩,
    ⟨27, [7, 9], .is (.bool true)⟩,
    ⟨28, [10], .is (.bool true)⟩,
    ⟨29, [11], .is (v3)⟩,
    ⟨30, [12, 11], .is (.string ⟨#[0]⟩)⟩,
    ⟨31, [13, 11], .is (.bool true)⟩,
    ⟨32, [11, 14], .is (.bool true)⟩,
    ⟨33, [15], .is (.bool true)⟩,
    ⟨34, [16], .bytes [0]⟩,
    ⟨35, [17, 16], .bytes [0, 0, 0, 0, 0]⟩,
    ⟨36, [18, 16], .is (.string ⟨#[0, 0, 0, 0, 0]⟩)⟩,
    ⟨37, [16], .bytes [0, 0, 0, 0, 0]⟩,
    ⟨38, [20, 16], .is (.string ⟨#[0, 0, 0, 0, 0]⟩)⟩,
    ⟨39, [19, 21, 16], .is (.bool true)⟩,
    ⟨40, [16, 22], .is (.bool true)⟩,
    ⟨0, [23], .is (.bool true)⟩]
    [(2, .int .i64 0), (1, v1), (4, .int .i64 0), (3, v3)] (by kernel_rfl) (by kernel_rfl) (by kernel_rfl) (by kernel_rfl) (by kernel_rfl) ⟨rfl, rfl, rfl, rfl, trivial⟩ ?_ ?_
  · repeat' (first | exact OblGAll.nil | refine OblGAll.cons ?_ ?_)
    all_goals (intro ev yi w' hB hc hf ho hn; simp only [OutsSay, NeedSay, rowAt, Fact.says, and_true] at ho hn)
    all_goals (try ((simp [OpSays, execOp, Region.wanted, Fact.says, boolOf, go_sem, ho, hn, hc, Below.refl]; done)))
    · rw [if_pos (by simp [Region.wanted, hn, boolOf])]
      exact says_str rfl Try.underlying22 Try.underlying5 Try.underlying9 (by rw [hn.1]; exact HV2.out.grow hB) ⟨rfl, Below.refl _ _⟩
    · rw [if_pos (by simp [Region.wanted, hn, boolOf])]
      exact says_str rfl Try.underlying22 Try.underlying5 Try.underlying9 (by rw [hn.1]; exact HV3.out.grow hB) ⟨rfl, Below.refl _ _⟩
    · rw [if_pos (by simp [Region.wanted, hn, boolOf])]
      simp [OpSays, execOp, go_sem, hc]
      exact ⟨⟨_, 1, rfl, by decide, Rd.new w' _ _⟩, (Below.refl _ _).alloc (Nat.le_refl _) _⟩
    · rw [if_pos (by simp [Region.wanted, hn, boolOf])]
      exact says_call Try.call6 (vs := #[ev (.tmp 34)]) rfl hf (by simp) (C4.out _ w' hn.1)
    · rw [if_pos (by simp [Region.wanted, hn, boolOf])]
      exact says_str rfl Try.underlying22 Try.underlying5 Try.underlying9 hn.1 ⟨rfl, Below.refl _ _⟩
    · rw [if_pos (by simp [Region.wanted, hn, boolOf])]
      simp [OpSays, execOp, go_sem, hc, HMK.out w']
      exact ⟨⟨_, 5, rfl, by decide, Rd.new w' _ _⟩, (Below.refl _ _).alloc (Nat.le_refl _) _⟩
    · rw [if_pos (by simp [Region.wanted, hn, boolOf])]
      exact says_str rfl Try.underlying22 Try.underlying5 Try.underlying9 hn.1 ⟨rfl, Below.refl _ _⟩
  · intro X w4 hb4 hx
    have hlast : X 24 = .bool true := hx 24 (by decide)
    clear hx
    have HL := Lib.hid hlast
    clear hlast
    simp only [layAll, List.setIfInBounds_toArray, List.set_cons_succ, List.set_cons_zero]
    go_wp2
    go_ret
    exact ⟨congrArg Ending.returned HL.out, HB3.out.trans (hb4.mono HB3.out.size)⟩
end Go.Proofs.Ytgbibmgedmbboaa
namespace Go.Proofs.Ytgbibmgedmbboaa
open Go.RowKit Go.Sort

theorem own_none26 (w : World) (base : Nat) (t : TypeId) (hb : base ≤ w.heap.size) : (w.alloc (.cells #[] t)).ownsRow base t 1 (.slice (some ⟨w.heap.size, 0, none⟩) 0 0) 0 [] :=
  ⟨by simp, .inr ⟨w.heap.size, 0, #[], rfl, hb, heap_alloc_new w _, Nat.le_refl _, Nat.zero_le _, rfl, rfl⟩⟩
theorem BldQ.len {σ : Type} {V : Way σ} {s : σ} {l Q : List UInt8} (h : BldQ V s l Q) : Q.length ≤ 90000 := by
  rcases h with ⟨-, rfl⟩ | ⟨-, T, -, rfl, hT⟩
  · simp
  · rw [u8s_length]; exact hT
/-- A row, and a byte behind it. -/
theorem row_more {w : World} {B : Nat} {v : Value} {Q : List UInt8} {u : UInt8} {un : Nat} (hu : un = u.toNat) (h : w.ownsRow B 5 1 v (0 + Q.length + 1) ([] ++ bvs Q ++ [.int .u8 (un : Int)])) : IsBytes (Q ++ [u]) v w := by
  refine IsBytes.of_own (base := B) (e := 5) ?_
  rw [List.length_append, bvs_append, show bvs [u] = [.int .u8 (un : Int)] by rw [hu]; rfl]
  simpa using h
set_option maxHeartbeats 4000000 in
set_option maxRecDepth 100000 in
theorem blendBack_core (A : Option Addr) (c : Nat) (l : List UInt8) (u : UInt8) (w : World) (hr : Rd w w.heap.size A (bvs l)) (hLc : l.length ≤ c) (hs : l.length ≤ 800) :
    Calls Try.prog 3 #[.slice A l.length c, .int .u8 (u.toNat : Int)] w (Yes w) := by
  obtain ⟨i0, hi, hz0, hz1, hz2⟩ := info_parts info_u8r
  have CK := Lib.hid blendKnown_any
  have HR := Lib.hid (bytes_row hr rfl hLc)
  obtain ⟨P, hP⟩ := bldQ_some bitWay newD_ok l (by omega)
  obtain ⟨Q, hQ⟩ := bldQ_some letWay noneF_inv l (by omega)
  have hl : l.length ≤ 1000 := by omega
  have C1 := Lib.hid (fun (W : World) (h : IsBytes l (.slice A l.length c) W) => blendCode_q hP hl _ h)
  have C2 := Lib.hid (fun (W : World) (h : IsBytes l (.slice A l.length c) W) => blendAdapt_q hQ hl _ h)
  have C3 : Hid (∀ (v : Value) (W : World), IsBytes P v W → Calls Try.prog 7 #[v, .int .i64 (l.length : Int)] W (DecBl W l 0)) := fun v W h => blendDecode_q (X := []) hP hl (by decide) v (by rw [List.append_nil]; exact h)
  have C4 : Hid (∀ (v : Value) (W : World), IsBytes Q v W → Calls Try.prog 8 #[v, .int .i64 (l.length : Int)] W (DecBl W l 0)) := fun v W h => blendAdapted_q (X := []) hQ hl (by decide) v (by rw [List.append_nil]; exact h)
  have C5 : Hid (∀ (v : Value) (W : World), IsBytes (P ++ [u]) v W → Calls Try.prog 7 #[v, .int .i64 (l.length : Int)] W (DecBl W [] 16)) := fun v W h => blendDecode_q (X := [u]) hP hl (by simp) v h
  have C6 : Hid (∀ (v : Value) (W : World), IsBytes (Q ++ [u]) v W → Calls Try.prog 8 #[v, .int .i64 (l.length : Int)] W (DecBl W [] 16)) := fun v W h => blendAdapted_q (X := [u]) hQ hl (by simp) v h
  have hlp := hP.len
  have hlq := hQ.len
  have hli : (l.length : Int) ≤ 800 := by omega
  have hu256 := u.toNat_lt
  obtain ⟨un, hun⟩ : ∃ un, un = u.toNat := ⟨_, rfl⟩
  rw [← hun] at hu256 ⊢
  have HUN := Lib.hid hun
  clear hr hP hQ hun hl
  go_enter Try.func3, Try.ntmps3
  go_wp2_with fail
  refine (C1.out _ HR.out).mono ?_
  rintro e w1 ⟨v1, rfl, hv1, hb1⟩
  have HP1 := Lib.hid hv1
  have HR1 := Lib.hid (HR.out.grow hb1)
  have HB1 := Lib.hid hb1
  obtain ⟨A1, c1, rfl, -, -⟩ := hv1
  clear hb1 C1 HR
  go_wp2_with fail
  refine (C2.out _ HR1.out).mono ?_
  rintro e w2 ⟨v2, rfl, hv2, hb2⟩
  have HQ2 := Lib.hid hv2
  have HP2 := Lib.hid (HP1.out.grow hb2)
  have HR2 := Lib.hid (HR1.out.grow hb2)
  have HB2 := Lib.hid (HB1.out.trans (hb2.mono HB1.out.size))
  obtain ⟨A2, c2, rfl, -, -⟩ := hv2
  clear hb2 C2 HR1 HP1 HB1
  go_wp2_with fail
  refine (C3.out _ _ HP2.out).mono ?_
  rintro e w3 ⟨v3, rfl, hv3, hb3⟩
  have HX3 := Lib.hid hv3
  have HQ3 := Lib.hid (HQ2.out.grow hb3)
  have HP3 := Lib.hid (HP2.out.grow hb3)
  have HR3 := Lib.hid (HR2.out.grow hb3)
  have HB3 := Lib.hid (HB2.out.trans (hb3.mono HB2.out.size))
  clear hv3 hb3 C3 HR2 HP2 HQ2 HB2
  go_wp2_with fail
  refine (C4.out _ _ HQ3.out).mono ?_
  rintro e w4 ⟨v4, rfl, hv4, hb4⟩
  have HY4 := Lib.hid hv4
  have HX4 := Lib.hid (HX3.out.grow hb4)
  have HQ4 := Lib.hid (HQ3.out.grow hb4)
  have HP4 := Lib.hid (HP3.out.grow hb4)
  have HR4 := Lib.hid (HR3.out.grow hb4)
  have HB4 := Lib.hid (HB3.out.trans (hb4.mono HB3.out.size))
  obtain ⟨A3, c3, he3, -, hrp⟩ := HP4.out
  obtain ⟨rfl, -, rfl⟩ := Value.slice.inj he3
  have HRP := Lib.hid hrp
  clear hv4 hb4 C4 HR3 HP3 HQ3 HX3 HB3 he3 hrp HP4
  go_wp2_with (first
    | ((with_reducible show wpList _ _ _ (({ dst := some 40, op := _, type := _, pos := _, after := _, guard := _ } : Oper) :: _) _ _); go_must (refine wpList_app rfl (.tmp 38) (.tmp 39) 22 rfl w4.heap.size 5 i0 (.int .u8 0) 1 1 Try.underlying22 hi hz0 hz1 hz2 rfl (by decide) _ _ _ rfl (own_none26 w4 w4.heap.size 5 (Nat.le_refl _)) w4.heap.size A1 P.length _ (bvs P) rfl (HRP.out.below ((Below.refl _ _).alloc (Nat.le_refl _) _)) (by rw [bvs_length, Nat.mul_one]) (bvs_one _) (by simp only [maxLen]; omega) (by omega) (by simp) ?_; intro v5 w5 hown5 hg5; have hb5 : Below w4.heap.size w4 w5 := ((Below.refl _ _).alloc (Nat.le_refl _) _).grown hg5 (by simp) (own_block (own_none26 w4 w4.heap.size 5 (Nat.le_refl _))); clear hg5; have HW5 := Lib.hid hown5; have HB5 := Lib.hid hb5; clear hown5 hb5))
    | ((with_reducible show wpList _ _ _ (({ dst := some 43, op := _, type := _, pos := _, after := _, guard := _ } : Oper) :: _) _ _); go_must (refine wpList_app rfl (.tmp 40) (.tmp 42) 22 rfl w4.heap.size 5 i0 (.int .u8 0) 1 1 Try.underlying22 hi hz0 hz1 hz2 rfl (by decide) _ _ _ rfl (HW5.out.alloc _) _ _ 1 1 _ rfl (Rd.new _ #[.int .u8 (un : Int)] _) rfl (by intro u hu; simp at hu; subst hu; rfl) (by simp only [maxLen]; omega) (by omega) (by have := HB5.out.size; simp; omega) ?_; intro v6 w6 hown6 hg6; have hb6 : Below w4.heap.size w4 w6 := (HB5.out.alloc HB5.out.size _).grown hg6 (by have := HB5.out.size; simp; omega) (own_block HW5.out); clear hg6; have HW6 := Lib.hid hown6; have HB6 := Lib.hid hb6; clear hown6 hb6)))
  have HPU := Lib.hid (row_more (Q := P) (u := u) HUN.out HW6.out)
  have HY6 := Lib.hid (HY4.out.grow HB6.out)
  have HX6 := Lib.hid (HX4.out.grow HB6.out)
  have HQ6 := Lib.hid (HQ4.out.grow HB6.out)
  have HR6 := Lib.hid (HR4.out.grow HB6.out)
  have HBB6 := Lib.hid (HB4.out.trans (HB6.out.mono HB4.out.size))
  clear HW5 HW6 HB5 HB6 HY4 HX4 HQ4 HR4 HB4 HRP
  refine (C5.out _ _ HPU.out).mono ?_
  rintro e w7 ⟨v7, rfl, -, hb7⟩
  have HY7 := Lib.hid (HY6.out.grow hb7)
  have HX7 := Lib.hid (HX6.out.grow hb7)
  have HQ7 := Lib.hid (HQ6.out.grow hb7)
  have HR7 := Lib.hid (HR6.out.grow hb7)
  have HB7 := Lib.hid (HBB6.out.trans (hb7.mono HBB6.out.size))
  obtain ⟨A4, c4, he4, -, hrq⟩ := HQ7.out
  obtain ⟨rfl, -, rfl⟩ := Value.slice.inj he4
  have HRQ := Lib.hid hrq
  clear hb7 C5 HPU HY6 HX6 HQ6 HR6 HBB6 he4 hrq HQ7
  go_wp2_with (first
    | ((with_reducible show wpList _ _ _ (({ dst := some 52, op := _, type := _, pos := _, after := _, guard := _ } : Oper) :: _) _ _); go_must (refine wpList_app rfl (.tmp 50) (.tmp 51) 22 rfl w7.heap.size 5 i0 (.int .u8 0) 1 1 Try.underlying22 hi hz0 hz1 hz2 rfl (by decide) _ _ _ rfl (own_none26 w7 w7.heap.size 5 (Nat.le_refl _)) w7.heap.size A2 Q.length _ (bvs Q) rfl (HRQ.out.below ((Below.refl _ _).alloc (Nat.le_refl _) _)) (by rw [bvs_length, Nat.mul_one]) (bvs_one _) (by simp only [maxLen]; omega) (by omega) (by simp) ?_; intro v8 w8 hown8 hg8; have hb8 : Below w7.heap.size w7 w8 := ((Below.refl _ _).alloc (Nat.le_refl _) _).grown hg8 (by simp) (own_block (own_none26 w7 w7.heap.size 5 (Nat.le_refl _))); clear hg8; have HW8 := Lib.hid hown8; have HB8 := Lib.hid hb8; clear hown8 hb8))
    | ((with_reducible show wpList _ _ _ (({ dst := some 55, op := _, type := _, pos := _, after := _, guard := _ } : Oper) :: _) _ _); go_must (refine wpList_app rfl (.tmp 52) (.tmp 54) 22 rfl w7.heap.size 5 i0 (.int .u8 0) 1 1 Try.underlying22 hi hz0 hz1 hz2 rfl (by decide) _ _ _ rfl (HW8.out.alloc _) _ _ 1 1 _ rfl (Rd.new _ #[.int .u8 (un : Int)] _) rfl (by intro u hu; simp at hu; subst hu; rfl) (by simp only [maxLen]; omega) (by omega) (by have := HB8.out.size; simp; omega) ?_; intro v9 w9 hown9 hg9; have hb9 : Below w7.heap.size w7 w9 := (HB8.out.alloc HB8.out.size _).grown hg9 (by have := HB8.out.size; simp; omega) (own_block HW8.out); clear hg9; have HW9 := Lib.hid hown9; have HB9 := Lib.hid hb9; clear hown9 hb9)))
  have HQU := Lib.hid (row_more (Q := Q) (u := u) HUN.out HW9.out)
  have HY9 := Lib.hid (HY7.out.grow HB9.out)
  have HX9 := Lib.hid (HX7.out.grow HB9.out)
  have HR9 := Lib.hid (HR7.out.grow HB9.out)
  have HBB9 := Lib.hid (HB7.out.trans (HB9.out.mono HB7.out.size))
  clear HW8 HW9 HB8 HB9 HY7 HX7 HR7 HB7 HRQ
  refine (C6.out _ _ HQU.out).mono ?_
  rintro e wa ⟨va, rfl, -, hba⟩
  have HYa := Lib.hid (HY9.out.grow hba)
  have HXa := Lib.hid (HX9.out.grow hba)
  have HRa := Lib.hid (HR9.out.grow hba)
  have HBa := Lib.hid (HBB9.out.trans (hba.mono HBB9.out.size))
  clear hba C6 HQU HY9 HX9 HR9 HBB9
  go_wp2_with (first
    | ((with_reducible show wpList _ _ _ (({ dst := some 69, op := _, type := _, pos := _, after := _, guard := _ } : Oper) :: _) _ _); go_must (refine wpList_strW rfl 22 9 5 (.tmp 68) rfl Try.underlying22 Try.underlying5 Try.underlying9 _ HXa.out ?_))
    | ((with_reducible show wpList _ _ _ (({ dst := some 71, op := _, type := _, pos := _, after := _, guard := _ } : Oper) :: _) _ _); go_must (refine wpList_strW rfl 22 9 5 (.tmp 70) rfl Try.underlying22 Try.underlying5 Try.underlying9 _ HRa.out ?_))
    | ((with_reducible show wpList _ _ _ (({ dst := some 76, op := _, type := _, pos := _, after := _, guard := _ } : Oper) :: _) _ _); go_must (refine wpList_strW rfl 22 9 5 (.tmp 75) rfl Try.underlying22 Try.underlying5 Try.underlying9 _ HYa.out ?_))
    | ((with_reducible show wpList _ _ _ (({ dst := some 78, op := _, type := _, pos := _, after := _, guard := _ } : Oper) :: _) _ _); go_must (refine wpList_strW rfl 22 9 5 (.tmp 77) rfl Try.underlying22 Try.underlying5 Try.underlying9 _ HRa.out ?_)))
  refine (CK.out _).mono ?_
  rintro e wb ⟨rfl, hbb⟩
  have HBb := Lib.hid (HBa.out.trans (hbb.mono HBa.out.size))
  clear hbb
  go_wp2
  go_ret
  exact ⟨rfl, HBb.out⟩
theorem blendBack_law (A : Option Addr) (L c : Nat) (l : List UInt8) (u : Nat) (hu : u ≤ 255) (w : World) (hr : Rd w w.heap.size A (bvs l)) (hL : l.length = L) (hLc : L ≤ c) :
    Calls Try.prog 3 #[.slice A L c, .int .u8 (u : Int)] w (Yes w) := by
  subst hL
  by_cases hs : l.length ≤ 800
  · have e : u = (UInt8.ofNat u).toNat := by simp [UInt8.toNat_ofNat']; omega
    rw [e]
    exact blendBack_core A c l _ w hr hLc hs
  · have hi : (800 : Int) < (l.length : Int) := by omega
    have CK := Lib.hid blendKnown_any
    clear hr hs
    go_enter Try.func3, Try.ntmps3
    go_wp2_with fail
    refine (CK.out _).mono ?_
    rintro e w' ⟨rfl, hb⟩
    go_wp2
    go_ret
    exact ⟨rfl, hb⟩
end Go.Proofs.Ytgbibmgedmbboaa
