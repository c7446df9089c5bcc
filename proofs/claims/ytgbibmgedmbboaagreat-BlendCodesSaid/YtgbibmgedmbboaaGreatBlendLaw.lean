/- Layer 26: the fixed calls. · Layer 26: the law BlendBack. -/
import Derived.Test.YtgbibmgedmbboaaGreatBlendBk
import Derived.Lib.SlBytesConst
namespace Go.Proofs.YtgbibmgedmbboaaGreat
open Go.RowKit Go.Sort

theorem moves_zero : Moves 0 16777215 [0] 0 4294967040 :=
  .move 0 16777215 [] 0 4294967040 (.inl (by unfold SameB; omega)) (by
    have h : cutR 0 16777215 = 16777215 := by unfold cutR; rw [if_pos (by unfold SameB; omega)]
    rw [h]
    exact .stop _ _ (by unfold SameB; omega) (by omega))
theorem letP_zero : letP noneF 0 = ⟨0, 1, 256⟩ := by
  unfold letP
  rw [fPre_zero, show noneF.getD 0 0 = 1 from rfl, show noneF.sum = 256 from ones_sum 256]
  rfl
/-- One nought, coded letter by letter: five noughts. -/
theorem k_zero : BldQ letWay noneF [0] [0, 0, 0, 0, 0] := by
  refine .inr ⟨by simp, [0, 0, 0, 0, 0], ?_, by decide, by decide⟩
  show Laid 0 4294967295 ([letP noneF 0] ++ []) ([0] ++ be4 0)
  rw [letP_zero]
  exact .part 0 4294967295 ⟨0, 1, 256⟩ [] [0] (be4 0) 0 4294967040 moves_zero (.last _ _)
/-- make of n noughts, as an equation. -/
theorem make_eq26 {P : Program} {t e : TypeId} {i : TypeInfo} {z : Value} (ht : P.underlying t = some (.slice e)) (hi : P.info? e = some i) (hz : i.zero = some z) (hzs : z.cells = #[z]) (hsize : i.size = 1) (hby : i.bytes ≤ 8) (n : Nat) (hn : n ≤ 1000000) (w : World) :
    (Instr.makeSlice t (.int .i64 (n : Int)) (.int .i64 (n : Int))).run P w = .ok (.slice (some ⟨w.heap.size, 0, none⟩) n n) (w.alloc (.cells (List.replicate n z).toArray e)) := by
  have hbn : ((i.bytes * n : Nat) : Int) ≤ 281474976710656 := by have := Nat.mul_le_mul_right n hby; omega
  rw [Int.natCast_mul] at hbn
  have hrun := run_make (P := P) w t e i z ht hi hz .i64 .i64 n n (by omega) (Int.le_refl _) hbn (by omega)
  simp only [Int.toNat_natCast, hsize, Nat.mul_one, hzs] at hrun
  have hcells : madeCells #[z] n = (List.replicate n z).toArray := by
    apply Array.ext'; rw [toList_madeCells_one]
  rw [hcells] at hrun
  exact hrun
theorem rd_newF (w : World) (cs : Array Value) (t : TypeId) (fr : Nat × Nat) : Rd (w.alloc (.cells cs t fr)) (w.alloc (.cells cs t fr)).heap.size (some ⟨w.heap.size, 0, none⟩) cs.toList := fun k u hu => by
  refine ⟨w.heap.size, 0, rfl, by simp, ?_⟩
  rw [Nat.zero_add, World.cell?_alloc_mark]
  rw [← hu]; simp
theorem newBl_says {w : World} {Q : List UInt8} {e : Ending} {w' : World} (h : NewBl w Q e w') : ∃ v, e = .returned v ∧ (Fact.bytes Q).says v w' ∧ Below w.heap.size w w' := h
set_option maxHeartbeats 2000000 in
set_option maxRecDepth 100000 in
theorem blendKnown_any (w : World) : Calls Tryz.prog 4 #[] w (Yes w) := by
  obtain ⟨QA, hQA⟩ := bldQ_some bitWay newD_ok [97, 98] (by decide)
  have C1 : Hid (∀ (v : Value) (W' : World), IsBytes [97, 98] v W' → Calls Tryz.prog 5 #[v] W' (NewBl W' QA)) := fun v W' h => blendCode_q hQA (by decide) v h
  have C2 : Hid (∀ (v : Value) (W' : World), IsBytes QA v W' → Calls Tryz.prog 9 #[v, .int .i64 2] W' (DecBl W' [97, 98] 0)) := fun v W' h => blendDecode_q (X := []) hQA (by decide) (by decide) v (by rw [List.append_nil]; exact h)
  have C3 : Hid (∀ (v : Value) (W' : World), IsBytes [0, 0, 0, 0, 0] v W' → Calls Tryz.prog 10 #[v, .int .i64 1] W' (DecBl W' [0] 0)) := fun v W' h => blendAdapted_q (l := [0]) (X := []) k_zero (by decide) (by decide) v h
  have C4 : Hid (∀ (v : Value) (W' : World), IsBytes [0] v W' → Calls Tryz.prog 7 #[v] W' (NewBl W' [0, 0, 0, 0, 0])) := fun v W' h => blendAdapt_q k_zero (by decide) v h
  obtain ⟨j0, hj0, hy0, hy1, hy2⟩ := info_parts info_u8r
  have hmk : ∀ W' : World, (Instr.makeSlice 22 (.int .i64 5) (.int .i64 5)).run Tryz.prog W' = .ok (.slice (some ⟨W'.heap.size, 0, none⟩) 5 5) (W'.alloc (.cells #[.int .u8 0, .int .u8 0, .int .u8 0, .int .u8 0, .int .u8 0] 5)) := fun W' => make_eq26 (P := Tryz.prog) (t := 22) (e := 5) Tryz.underlying22 hj0 hy0 rfl hy1 (by rw [hy2]; decide) 5 (by decide) W'
  have HMK := Lib.hid hmk
  have hcv := fun (w : World) (C : Array Value) (n c : Nat) => Lib.run_convert_bytes_const (P := Tryz.prog) w 22 5 C n c Tryz.underlying22 Tryz.underlying5
  clear hQA hj0 hy0 hy1 hy2 hmk
  go_enter Tryz.func4, Tryz.ntmps4
  go_wp2_with fail
  have hk2 : IsBytes [97, 98] (.slice (some ⟨w.heap.size, 0, none⟩) 2 2) (w.alloc (.cells #[.int .u8 97, .int .u8 98] 5 (2, 3))) := ⟨_, 2, rfl, by decide, rd_newF w #[.int .u8 97, .int .u8 98] _ _⟩
  refine (C1.out _ _ hk2).mono ?_
  rintro e w1 ⟨v, rfl, hv, hb⟩
  have HV := Lib.hid hv
  have HB := Lib.hid (((Below.refl _ _).alloc (Nat.le_refl _) _).trans (hb.mono (by simp)))
  clear hv hb C1 hk2 hcv
  go_wp2_with fail
  refine (C2.out _ _ HV.out).mono ?_
  rintro e w2 ⟨v1, rfl, hv, hb⟩
  have HV1 := Lib.hid hv
  have HB1 := Lib.hid (HB.out.trans (hb.mono HB.out.size))
  have hm2 := HMK.out w2
  clear hv hb C2 HV HB
  go_wp2_with fail
  have hk5 : IsBytes [0, 0, 0, 0, 0] (.slice (some ⟨w2.heap.size, 0, none⟩) 5 5) (w2.alloc (.cells #[.int .u8 0, .int .u8 0, .int .u8 0, .int .u8 0, .int .u8 0] 5)) := ⟨_, 5, rfl, by decide, Rd.new w2 #[.int .u8 0, .int .u8 0, .int .u8 0, .int .u8 0, .int .u8 0] _⟩
  refine (C3.out _ _ hk5).mono ?_
  rintro e w3 ⟨v3, rfl, hv, hb⟩
  have HV3 := Lib.hid hv
  have hb3 := ((Below.refl _ _).alloc (Nat.le_refl _) _).trans (hb.mono (by simp))
  have HV2 := Lib.hid (HV1.out.grow hb3)
  have HB3 := Lib.hid (HB1.out.trans (hb3.mono HB1.out.size))
  clear hv hb hb3 C3 HV1 HB1 hm2 hk5
  go_wp2
  refine wp_region_grow [⟨17, [], .is (.int .i64 0)⟩,
    ⟨18, [0], .is (.bool true)⟩,
    ⟨19, [1], .is (.bool true)⟩,
    ⟨20, [2], .is (v1)⟩,
    ⟨21, [3, 2], .is (.string ⟨#[97, 98]⟩)⟩,
    ⟨22, [4, 2], .is (.bool true)⟩,
    ⟨23, [2, 5], .is (.bool true)⟩,
    ⟨24, [6], .is (.bool true)⟩,
    ⟨25, [7], .is (.int .i64 0)⟩,
    ⟨26, [8, 7], .is (.bool true)⟩,
    ⟨27, [7, 9], .is (.bool true)⟩,
    ⟨28, [10], .is (.bool true)⟩,
    ⟨29, [11], .is (v3)⟩,
    ⟨30, [12, 11], .is (.string ⟨#[0]⟩)⟩,
    ⟨31, [13, 11], .is (.bool true)⟩,
    ⟨32, [11, 14], .is (.bool true)⟩,
    ⟨33, [15], .is (.bool true)⟩,
    ⟨34, [16], .bytes [0]⟩,
    ⟨35, [17, 16], .bytes [0, 0, 0, 0, 0]⟩,
    ⟨36, [18, 16], .is (.string ⟨#[0, 0, 0, 0, 0]⟩)⟩,
    ⟨37, [16], .bytes [0, 0, 0, 0, 0]⟩,
    ⟨38, [20, 16], .is (.string ⟨#[0, 0, 0, 0, 0]⟩)⟩,
    ⟨39, [19, 21, 16], .is (.bool true)⟩,
    ⟨40, [16, 22], .is (.bool true)⟩,
    ⟨0, [23], .is (.bool true)⟩]
    [(2, .int .i64 0), (1, v1), (4, .int .i64 0), (3, v3)] (by kernel_rfl) (by kernel_rfl) (by kernel_rfl) (by kernel_rfl) (by kernel_rfl) ⟨rfl, rfl, rfl, rfl, trivial⟩ ?_ ?_
  · repeat' (first | exact OblGAll.nil | refine OblGAll.cons ?_ ?_)
    all_goals (intro ev yi w' hB hc hf ho hn; simp only [OutsSay, NeedSay, rowAt, Fact.says, and_true] at ho hn)
    all_goals (try ((simp [OpSays, execOp, Region.wanted, Fact.says, boolOf, go_sem, ho, hn, hc, Below.refl]; done)))
    · rw [if_pos (by simp [Region.wanted, hn, boolOf])]
      exact says_str rfl Tryz.underlying22 Tryz.underlying5 Tryz.underlying9 (by rw [hn.1]; exact HV2.out.grow hB) ⟨rfl, Below.refl _ _⟩
    · rw [if_pos (by simp [Region.wanted, hn, boolOf])]
      exact says_str rfl Tryz.underlying22 Tryz.underlying5 Tryz.underlying9 (by rw [hn.1]; exact HV3.out.grow hB) ⟨rfl, Below.refl _ _⟩
    · rw [if_pos (by simp [Region.wanted, hn, boolOf])]
      simp [OpSays, execOp, go_sem, hc]
      exact ⟨⟨_, 1, rfl, by decide, Rd.new w' _ _⟩, (Below.refl _ _).alloc (Nat.le_refl _) _⟩
    · rw [if_pos (by simp [Region.wanted, hn, boolOf])]
      exact says_call Tryz.call7 (vs := #[ev (.tmp 34)]) rfl hf (by simp) (C4.out _ w' hn.1)
    · rw [if_pos (by simp [Region.wanted, hn, boolOf])]
      exact says_str rfl Tryz.underlying22 Tryz.underlying5 Tryz.underlying9 hn.1 ⟨rfl, Below.refl _ _⟩
    · rw [if_pos (by simp [Region.wanted, hn, boolOf])]
      simp [OpSays, execOp, go_sem, hc, HMK.out w']
      exact ⟨⟨_, 5, rfl, by decide, Rd.new w' _ _⟩, (Below.refl _ _).alloc (Nat.le_refl _) _⟩
    · rw [if_pos (by simp [Region.wanted, hn, boolOf])]
      exact says_str rfl Tryz.underlying22 Tryz.underlying5 Tryz.underlying9 hn.1 ⟨rfl, Below.refl _ _⟩
  · intro X w4 hb4 hx
    have hlast : X 24 = .bool true := hx 24 (by decide)
    clear hx
    have HL := Lib.hid hlast
    clear hlast
    simp only [layAll, List.setIfInBounds_toArray, List.set_cons_succ, List.set_cons_zero]
    go_wp2
    go_ret
    exact ⟨congrArg Ending.returned HL.out, HB3.out.trans (hb4.mono HB3.out.size)⟩
end Go.Proofs.YtgbibmgedmbboaaGreat
namespace Go.Proofs.YtgbibmgedmbboaaGreat
open Go.RowKit Go.Sort

theorem own_none26 (w : World) (base : Nat) (t : TypeId) (hb : base ≤ w.heap.size) : (w.alloc (.cells #[] t)).ownsRow base t 1 (.slice (some ⟨w.heap.size, 0, none⟩) 0 0) 0 [] :=
  ⟨by simp, .inr ⟨w.heap.size, 0, #[], rfl, hb, heap_alloc_new w _, Nat.le_refl _, Nat.zero_le _, rfl, rfl⟩⟩
theorem BldQ.len {σ : Type} {V : Way σ} {s : σ} {l Q : List UInt8} (h : BldQ V s l Q) : Q.length ≤ 90000 := by
  rcases h with ⟨-, rfl⟩ | ⟨-, T, -, rfl, hT⟩
  · simp
  · rw [u8s_length]; exact hT
/-- A row, and a byte behind it. -/
theorem row_more {w : World} {B : Nat} {v : Value} {Q : List UInt8} {u : UInt8} {un : Nat} (hu : un = u.toNat) (h : w.ownsRow B 5 1 v (0 + Q.length + 1) ([] ++ bvs Q ++ [.int .u8 (un : Int)])) : IsBytes (Q ++ [u]) v w := by
  refine IsBytes.of_own (base := B) (e := 5) ?_
  rw [List.length_append, bvs_append, show bvs [u] = [.int .u8 (un : Int)] by rw [hu]; rfl]
  simpa using h
end Go.Proofs.YtgbibmgedmbboaaGreat
