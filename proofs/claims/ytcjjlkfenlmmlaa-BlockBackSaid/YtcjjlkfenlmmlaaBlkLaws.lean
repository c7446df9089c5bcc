/- Layer 30: what comes of fixed calls; BlockPuts, BlockGets, BlockEnds. -/
import Derived.Test.YtcjjlkfenlmmlaaBlkChk
import Derived.Test.YtcjjlkfenlmmlaaBlkGEnd
import Derived.Test.YtcjjlkfenlmmlaaBlkPut
import Derived.Test.YtcjjlkfenlmmlaaBlkMath
import Derived.Test.YtcjjlkfenlmmlaaOptMay
namespace Go.Proofs.Ytcjjlkfenlmmlaa
open Go.RowKit Go.Sort

/-- make of n noughts, as an equation. -/
theorem make_eq30 {P : Program} {t e : TypeId} {i : TypeInfo} {z : Value} (ht : P.underlying t = some (.slice e)) (hi : P.info? e = some i) (hz : i.zero = some z) (hzs : z.cells = #[z]) (hsize : i.size = 1) (hby : i.bytes ≤ 8) (n : Nat) (hn : n ≤ 1000000) (w : World) :
    (Instr.makeSlice t (.int .i64 (n : Int)) (.int .i64 (n : Int))).run P w = .ok (.slice (some ⟨w.heap.size, 0, none⟩) n n) (w.alloc (.cells (List.replicate n z).toArray e)) := by
  have hbn : ((i.bytes * n : Nat) : Int) ≤ 281474976710656 := by have := Nat.mul_le_mul_right n hby; omega
  rw [Int.natCast_mul] at hbn
  have hrun := run_make (P := P) w t e i z ht hi hz .i64 .i64 n n (by omega) (Int.le_refl _) hbn (by omega)
  simp only [Int.toNat_natCast, hsize, Nat.mul_one, hzs] at hrun
  have hcells : madeCells #[z] n = (List.replicate n z).toArray := by
    apply Array.ext'; rw [toList_madeCells_one]
  rw [hcells] at hrun
  exact hrun
theorem NewB.says {w : World} {Q : List UInt8} {e : Ending} {w' : World} (h : NewB w Q e w') : ∃ v, e = .returned v ∧ (Fact.bytes Q).says v w' ∧ Below w.heap.size w w' := by
  obtain ⟨v, h1, h2, h3⟩ := h
  exact ⟨v, h1, IsBytes.of_own h2, h3⟩
theorem k_blk : blkL 0 3 0 3 1 = [1, 3, 1, 0, 0, 0] := by
  rw [blkL_stored rfl, lput_small (by decide)]
  rfl
theorem k_end : endL 0 0 = [0, 0, 0, 0, 0, 0] := by
  rw [endL_eq, lput_small (by decide)]
  rfl
theorem k_get : getB [1, 3, 1, 0, 0, 0] 9 = ((0, 3, 0, 3, 1), 6, 0) := by
  have h := getB_put (mo := 0) (ra := 3) (mi := 0) (co := 3) (su := 1) (most := 9) (by decide) (by decide) (by decide) []
  rw [List.append_nil, k_blk] at h
  exact h
set_option maxRecDepth 100000 in
set_option maxHeartbeats 4000000 in
theorem known30_any (W : World) : Calls Try.prog 8 #[] W fun e w' => e = .returned (.bool true) ∧ Below W.heap.size W w' := by
  have C1 := Lib.hid (fun w => blkPut_any (mo := 0) (ra := 3) (mi := 0) (co := 3) (su := 1) (fr := 0) (pl := 0) (by decide) (by decide) (by decide) (by decide) (by decide) w)
  rw [k_blk] at C1
  unfold blkV at C1
  have C2 := Lib.hid (fun A c w (hr : Rd w w.heap.size A (bvs [1, 3, 1, 0, 0, 0])) (hc : 6 ≤ c) => blkGet_any A 6 c [1, 3, 1, 0, 0, 0] w hr rfl hc (by decide) (b := 9) (wd := 1) (rc := 0) (md := 0) (by decide))
  rw [k_get] at C2
  have C3 := Lib.hid (fun w => blkPutEnd_any (t := 0) (su := 0) (by decide) (by decide) w)
  rw [show endL (0 : Int).toNat 0 = [0, 0, 0, 0, 0, 0] from k_end] at C3
  have C4 := Lib.hid (fun w => blkCheck_any (b := 9) (mo := 0) (ra := 10) (mi := 0) (co := 10) (su := 0) (fr := 0) (pl := 0) (wd := 1) (rc := 0) (md := 0) (by decide) (by decide) (by decide) (by decide) w)
  rw [show chkB 0 10 0 10 ((9 : Nat) : Int) = 15 by decide] at C4
  unfold blkV at C4
  obtain ⟨j0, hj0, hy0, hy1, hy2⟩ := info_parts info_u8
  have hmk : ∀ W' : World, (Instr.makeSlice 32 (.int .i64 6) (.int .i64 6)).run Try.prog W' = .ok (.slice (some ⟨W'.heap.size, 0, none⟩) 6 6) (W'.alloc (.cells #[.int .u8 0, .int .u8 0, .int .u8 0, .int .u8 0, .int .u8 0, .int .u8 0] 5)) := fun W' => make_eq30 (P := Try.prog) (t := 32) (e := 5) Try.underlying32 hj0 hy0 rfl hy1 (by rw [hy2]; decide) 6 (by decide) W'
  have HMK := Lib.hid hmk
  have HO := Lib.hid (blk_new W #[.int .i64 9, .int .i64 1, .int .i64 0, .int .i64 0] 26 rfl)
  have HB := Lib.hid ((Below.refl W.heap.size W).alloc (Nat.le_refl _) (.cells #[.int .i64 9, .int .i64 1, .int .i64 0, .int .i64 0] 26))
  clear hj0 hy0 hy1 hy2 hmk
  go_enter Try.func8, Try.ntmps8
  go_wp2_with fail
  refine (C1.out _).mono ?_
  rintro e w1 ⟨v1, rfl, ho1, hb1⟩
  have HV1 := Lib.hid (IsBytes.of_own ho1)
  have HO1 := Lib.hid (HO.out.grow hb1)
  have HB1 := Lib.hid (HB.out.trans (hb1.mono HB.out.size))
  have q0 := HO1.out.cell 0
  have q1 := HO1.out.cell 1
  have q2 := HO1.out.cell 2
  have q3 := HO1.out.cell 3
  have hlt := HO1.out.lt
  simp only [List.getElem?_cons_zero, List.getElem?_cons_succ] at q0 q1 q2 q3
  obtain ⟨A1, c1, rfl, hc1, hr1⟩ := HV1.out
  have HR1 := Lib.hid hr1
  rw [show ([1, 3, 1, 0, 0, 0] : List UInt8).length = 6 from rfl] at hc1 HV1 ⊢
  clear ho1 hb1 HO HB C1 hr1
  go_wp2_with fail
  refine (C2.out A1 c1 w1 HR1.out hc1).mono ?_
  rintro e w2 ⟨rfl, hb2⟩
  unfold blkC
  have HB2 := Lib.hid (HB1.out.trans (hb2.mono HB1.out.size))
  have HO2 := Lib.hid (HO1.out.grow hb2)
  have HV2 := Lib.hid (HV1.out.grow hb2)
  clear hb2 q0 q1 q2 q3 hlt HO1 HB1 HV1 HR1 C2
  go_wp2_with fail
  obtain ⟨w3, hw3⟩ : ∃ w3 : World, w3 = w2.alloc (.cells #[.int .i64 0, .int .i64 3, .int .i64 0, .int .i64 3, .int .u32 1, .int .i64 0, .int .i64 0] 24) := ⟨_, rfl⟩
  have hb3 : Below w2.heap.size w2 w3 := by rw [hw3]; exact (Below.refl _ _).alloc (Nat.le_refl _) _
  have HT3 := Lib.hid (show Blk w3 w2.heap.size 24 [.int .i64 0, .int .i64 3, .int .i64 0, .int .i64 3, .int .u32 1, .int .i64 0, .int .i64 0] by rw [hw3]; exact blk_new w2 _ _ rfl)
  have HB3 := Lib.hid (HB2.out.trans (hb3.mono HB2.out.size))
  have HO3 := Lib.hid (HO2.out.grow hb3)
  have HV3 := Lib.hid (HV2.out.grow hb3)
  rw [← hw3]
  obtain ⟨G, hG⟩ : ∃ G, G = W.heap.size := ⟨_, rfl⟩
  obtain ⟨H, hH⟩ : ∃ H, H = w2.heap.size := ⟨_, rfl⟩
  rw [← hG] at HO3
  rw [← hH] at HT3
  rw [← hG, ← hH]
  clear hb3 hw3 HO2 HB2 HV2 hG hH
  refine wp_region_grow [⟨16, [], .is (.slice A1 6 c1)⟩,
    ⟨17, [0], .is (.string ⟨([1, 3, 1, 0, 0, 0]).toArray⟩)⟩,
    ⟨18, [1], .is (.bool true)⟩,
    ⟨19, [2], .is (.bool true)⟩,
    ⟨20, [3], .is (.int .i64 6)⟩,
    ⟨21, [4, 3], .is (.bool true)⟩,
    ⟨22, [3, 5], .is (.bool true)⟩,
    ⟨23, [6], .is (.bool true)⟩,
    ⟨24, [7], .is (.int .i64 0)⟩,
    ⟨25, [8, 7], .is (.bool true)⟩,
    ⟨26, [7, 9], .is (.bool true)⟩,
    ⟨27, [10], .is (.bool true)⟩,
    ⟨28, [11], .is (.pointer (some ⟨H, 1, none⟩))⟩,
    ⟨29, [12, 11], .is (.int .i64 3)⟩,
    ⟨30, [13, 11], .is (.bool true)⟩,
    ⟨31, [11, 14], .is (.bool true)⟩,
    ⟨32, [15], .is (.bool true)⟩,
    ⟨33, [16], .is (.pointer (some ⟨H, 3, none⟩))⟩,
    ⟨34, [17, 16], .is (.int .i64 3)⟩,
    ⟨35, [18, 16], .is (.bool true)⟩,
    ⟨36, [16, 19], .is (.bool true)⟩,
    ⟨37, [20], .is (.bool true)⟩,
    ⟨38, [21], .bytes ([0, 0, 0, 0, 0, 0])⟩,
    ⟨39, [22, 21], .is (.string ⟨([0, 0, 0, 0, 0, 0]).toArray⟩)⟩,
    ⟨40, [21], .bytes ([0, 0, 0, 0, 0, 0])⟩,
    ⟨41, [24, 21], .is (.string ⟨([0, 0, 0, 0, 0, 0]).toArray⟩)⟩,
    ⟨42, [23, 25, 21], .is (.bool true)⟩,
    ⟨43, [21, 26], .is (.bool true)⟩,
    ⟨44, [27], .is (.bool true)⟩,
    ⟨45, [28], .is (.agg #[.int .i64 0, .int .i64 10, .int .i64 0, .int .i64 10, .int .u32 0, .int .i64 0, .int .i64 0])⟩,
    ⟨46, [28], .is (.agg #[.int .i64 9, .int .i64 1, .int .i64 0, .int .i64 0])⟩,
    ⟨47, [29, 30, 28], .is (.int .i64 15)⟩,
    ⟨48, [31, 28], .is (.bool true)⟩,
    ⟨49, [28, 32], .is (.bool true)⟩,
    ⟨0, [33], .is (.bool true)⟩]
    [(2, .slice A1 6 c1), (4, .int .i64 6), (5, .int .i64 0), (3, .pointer (some ⟨H, 0, none⟩)), (1, .pointer (some ⟨G, 0, none⟩))] (by kernel_rfl) (by kernel_rfl) (by kernel_rfl) (by kernel_rfl) (by kernel_rfl) ⟨rfl, rfl, rfl, rfl, rfl, trivial⟩ ?_ ?_
  · repeat' (first | exact OblGAll.nil | refine OblGAll.cons ?_ ?_)
    all_goals (intro ev yi w' hB hc hf ho hn; simp only [OutsSay, NeedSay, rowAt, Fact.says, and_true] at ho hn)
    all_goals (try ((simp [OpSays, execOp, Region.wanted, Fact.says, boolOf, go_sem, ho, hn, hc, Below.refl]; done)))
    · rw [if_pos (by simp [Region.wanted])]
      exact says_str rfl Try.underlying32 Try.underlying5 Try.underlying9 (by rw [hn.1]; exact HV3.out.grow hB) ⟨rfl, Below.refl _ _⟩
    · rw [if_pos (by simp [Region.wanted, hn, boolOf])]
      have q := (HT3.out.grow hB).cell 1
      simp only [List.getElem?_cons_zero, List.getElem?_cons_succ] at q
      simp [OpSays, execOp, Fact.says, go_sem, hn, Below.refl, q]
    · rw [if_pos (by simp [Region.wanted, hn, boolOf])]
      have q := (HT3.out.grow hB).cell 3
      simp only [List.getElem?_cons_zero, List.getElem?_cons_succ] at q
      simp [OpSays, execOp, Fact.says, go_sem, hn, Below.refl, q]
    · rw [if_pos (by simp [Region.wanted, hn, boolOf])]
      exact says_call Try.call17 (vs := #[.int .i64 0, .int .u32 0]) rfl hf (by simp [hc]) ((C3.out w').mono fun _ _ h => h.says)
    · rw [if_pos (by simp [Region.wanted, hn, boolOf])]
      exact says_str rfl Try.underlying32 Try.underlying5 Try.underlying9 hn.1 ⟨rfl, Below.refl _ _⟩
    · rw [if_pos (by simp [Region.wanted, hn, boolOf])]
      simp [OpSays, execOp, go_sem, hc, HMK.out w']
      exact ⟨⟨_, 6, rfl, by decide, Rd.new w' _ _⟩, (Below.refl _ _).alloc (Nat.le_refl _) _⟩
    · rw [if_pos (by simp [Region.wanted, hn, boolOf])]
      exact says_str rfl Try.underlying32 Try.underlying5 Try.underlying9 hn.1 ⟨rfl, Below.refl _ _⟩
    · rw [if_pos (by simp [Region.wanted, hn, boolOf])]
      have q0 := (HO3.out.grow hB).cell 0
      have q1 := (HO3.out.grow hB).cell 1
      have q2 := (HO3.out.grow hB).cell 2
      have q3 := (HO3.out.grow hB).cell 3
      simp only [List.getElem?_cons_zero, List.getElem?_cons_succ] at q0 q1 q2 q3
      simp [OpSays, execOp, Fact.says, go_sem, ho, Below.refl, q0, q1, q2, q3]
    · rw [if_pos (by simp [Region.wanted, hn, boolOf])]
      exact says_call Try.call9 (vs := #[.agg #[.int .i64 0, .int .i64 10, .int .i64 0, .int .i64 10, .int .u32 0, .int .i64 0, .int .i64 0], .agg #[.int .i64 9, .int .i64 1, .int .i64 0, .int .i64 0]]) rfl hf (by simp [hn]) ((C4.out w').mono fun _ _ h => ⟨_, h.1, rfl, h.2⟩)
  · intro X w4 hb4 hx
    have hlast : X 34 = .bool true := hx 34 (by decide)
    clear hx
    have HL := Lib.hid hlast
    clear hlast
    simp only [layAll, List.setIfInBounds_toArray, List.set_cons_succ, List.set_cons_zero]
    go_wp2
    go_ret
    exact ⟨congrArg Ending.returned HL.out, HB3.out.trans (hb4.mono HB3.out.size)⟩
theorem mayBk_ex {mo ra mi co : Int} {b : Nat} (h : mayBk mo ra mi co (b : Int) = true) : ∃ mo' ra' mi' co' : Nat, mo = (mo' : Int) ∧ ra = (ra' : Int) ∧ mi = (mi' : Int) ∧ co = (co' : Int) := by
  unfold mayBk at h
  by_cases h0 : mo = 0
  · rw [if_pos h0] at h
    simp at h
    exact ⟨mo.toNat, ra.toNat, mi.toNat, co.toNat, by omega, by omega, by omega, by omega⟩
  · rw [if_neg h0] at h
    simp at h
    exact ⟨mo.toNat, ra.toNat, mi.toNat, co.toNat, by omega, by omega, by omega, by omega⟩
theorem two_boxes (W : World) (cs ds : Array Value) (t u : TypeId) : Blk ((W.alloc (.cells cs t)).alloc (.cells ds u)) W.heap.size t cs.toList ∧ Blk ((W.alloc (.cells cs t)).alloc (.cells ds u)) (W.heap.size + 1) u ds.toList ∧ Below W.heap.size W ((W.alloc (.cells cs t)).alloc (.cells ds u)) :=
  ⟨(blk_new W cs t rfl).grow ((Below.refl _ _).alloc (Nat.le_refl _) _), blk_new _ _ _ (by simp), ((Below.refl _ _).alloc (Nat.le_refl _) _).alloc (by simp) _⟩
set_option maxRecDepth 100000 in
set_option maxHeartbeats 4000000 in
theorem blockPuts_law (mo ra mi co su fr pl b u r m : Int) (W : World) (hsu : 0 ≤ su ∧ su ≤ 4294967295) (hbb : (-9223372036854775808 ≤ ra ∧ ra ≤ 9223372036854775807) ∧ (-9223372036854775808 ≤ mi ∧ mi ≤ 9223372036854775807) ∧ (-9223372036854775808 ≤ co ∧ co ≤ 9223372036854775807)) :
    Calls Try.prog 3 #[.agg #[.int .i64 mo, .int .i64 ra, .int .i64 mi, .int .i64 co, .int .u32 su, .int .i64 fr, .int .i64 pl], .agg #[.int .i64 b, .int .i64 u, .int .i64 r, .int .i64 m]] W fun e w' => e = .returned (.bool true) ∧ Below W.heap.size W w' := by
  have CK := Lib.hid known30_any
  have CM := Lib.hid (fun w => refMay_any b u r m w)
  unfold optV at CM
  obtain ⟨hH, hO, hB⟩ := two_boxes W #[.int .i64 mo, .int .i64 ra, .int .i64 mi, .int .i64 co, .int .u32 su, .int .i64 fr, .int .i64 pl] #[.int .i64 b, .int .i64 u, .int .i64 r, .int .i64 m] 24 26
  have HH := Lib.hid hH
  have HO := Lib.hid hO
  have HB := Lib.hid hB
  clear hH hO hB
  cases hmay : mayO b u r m with
  | false =>
    rw [hmay] at CM
    clear hmay
    go_enter Try.func3, Try.ntmps3
    go_wp2_with fail
    refine (CM.out _).mono ?_
    rintro e w2 ⟨rfl, hb2⟩
    have HB2 := Lib.hid (HB.out.trans (hb2.mono HB.out.size))
    clear hb2
    go_wp2_with fail
    refine (CK.out _).mono ?_
    rintro e w3 ⟨rfl, hb3⟩
    have HB3 := Lib.hid (HB2.out.trans (hb3.mono HB2.out.size))
    clear hb3
    go_wp2
    go_ret
    exact ⟨rfl, HB3.out⟩
  | true =>
    rw [hmay] at CM
    obtain ⟨b', u', r', m', rfl, rfl, rfl, rfl, hb1, hb2, hu, hr10, hm6⟩ := mayO_nat hmay
    have CC := Lib.hid (fun w => blkCheck_any (b := b') (mo := mo) (ra := ra) (mi := mi) (co := co) (su := su) (fr := fr) (pl := pl) (wd := (u' : Int)) (rc := (r' : Int)) (md := (m' : Int)) hb2 hbb.1 hbb.2.1 hbb.2.2 w)
    have CR := Lib.hid (fun w => refBMay_any mo ra mi co su fr pl (b' : Int) (by omega) w)
    unfold blkV at CC CR
    clear hmay hb1 hu hr10 hm6 hbb
    go_enter Try.func3, Try.ntmps3
    go_wp2_with fail
    refine (CM.out _).mono ?_
    rintro e w2 ⟨rfl, hbw⟩
    have HB2 := Lib.hid (HB.out.trans (hbw.mono HB.out.size))
    have HO2 := Lib.hid (HO.out.grow hbw)
    have HH2 := Lib.hid (HH.out.grow hbw)
    obtain ⟨G, hG⟩ : ∃ G, G = W.heap.size := ⟨_, rfl⟩
    obtain ⟨H, hH⟩ : ∃ H, H = W.heap.size + 1 := ⟨_, rfl⟩
    rw [← hG] at HH2
    rw [← hH] at HO2
    rw [← hG, ← (show H = G + 1 by omega)]
    have HG := Lib.hid (And.intro hG hH)
    clear hbw hG hH HB HO HH CM
    have o0 := HO2.out.cell 0
    have o1 := HO2.out.cell 1
    have o2 := HO2.out.cell 2
    have o3 := HO2.out.cell 3
    have h0 := HH2.out.cell 0
    have h1 := HH2.out.cell 1
    have h2 := HH2.out.cell 2
    have h3 := HH2.out.cell 3
    have h4 := HH2.out.cell 4
    have h5 := HH2.out.cell 5
    have h6 := HH2.out.cell 6
    simp only [List.getElem?_cons_zero, List.getElem?_cons_succ] at o0 o1 o2 o3 h0 h1 h2 h3 h4 h5 h6
    go_wp2_with fail
    refine (CC.out _).mono ?_
    rintro e w3 ⟨rfl, hbw⟩
    have HB3 := Lib.hid (HB2.out.trans (hbw.mono HB2.out.size))
    have HO3 := Lib.hid (HO2.out.grow hbw)
    have HH3 := Lib.hid (HH2.out.grow hbw)
    clear hbw HB2 HO2 HH2 o0 o1 o2 o3 h0 h1 h2 h3 h4 h5 h6 CC
    have o0 := HO3.out.cell 0
    have o1 := HO3.out.cell 1
    have o2 := HO3.out.cell 2
    have o3 := HO3.out.cell 3
    have h0 := HH3.out.cell 0
    have h1 := HH3.out.cell 1
    have h2 := HH3.out.cell 2
    have h3 := HH3.out.cell 3
    have h4 := HH3.out.cell 4
    have h5 := HH3.out.cell 5
    have h6 := HH3.out.cell 6
    simp only [List.getElem?_cons_zero, List.getElem?_cons_succ] at o0 o1 o2 o3 h0 h1 h2 h3 h4 h5 h6
    cases hbk : mayBk mo ra mi co (b' : Int) with
    | false =>
      rw [hbk] at CR
      rw [chkB_no hbk]
      clear hbk
      go_wp2_with fail
      refine (CR.out _).mono ?_
      rintro e w4 ⟨rfl, hbw⟩
      have HB4 := Lib.hid (HB3.out.trans (hbw.mono HB3.out.size))
      clear hbw HB3 HO3 HH3 o0 o1 o2 o3 h0 h1 h2 h3 h4 h5 h6 CR
      go_wp2_with fail
      refine (CK.out _).mono ?_
      rintro e w5 ⟨rfl, hbw⟩
      have HB5 := Lib.hid (HB4.out.trans (hbw.mono HB4.out.size))
      clear hbw
      go_wp2
      go_ret
      exact ⟨rfl, HB5.out⟩
    | true =>
      rw [hbk] at CR
      rw [chkB_yes hbk]
      obtain ⟨mo, ra, mi, co, rfl, rfl, rfl, rfl⟩ := mayBk_ex hbk
      obtain ⟨su, rfl⟩ := Int.eq_ofNat_of_zero_le hsu.1
      obtain ⟨k5, k1, km, kz, kn⟩ := mayBk_nat hbk
      have hmi : mi ≤ 3 * ra + 64 := by
        by_cases h0 : mo = 0
        · have := kz h0; omega
        · exact (kn h0).1
      have hco : co ≤ ra := by
        by_cases h0 : mo = 0
        · have := kz h0; omega
        · have := kn h0; omega
      have hs : su < 4294967296 := by omega
      have CP := Lib.hid (fun w => blkPut_any (mo := mo) (ra := ra) (mi := mi) (co := co) (su := su) (fr := fr) (pl := pl) k5 (by omega) (by omega) (by omega) hs w)
      have CQ := Lib.hid (fun w => refBPut_any (mo := mo) (ra := ra) (mi := mi) (co := co) (su := su) (fr := fr) (pl := pl) k5 (by omega) (by omega) (by omega) hs w)
      unfold blkV at CP CQ
      have hlen : (blkL mo ra mi co su).length ≤ 17 := blkL_len (by omega) hmi hco
      obtain ⟨L, hL⟩ : ∃ L, L = blkL mo ra mi co su := ⟨_, rfl⟩
      rw [← hL] at CP CQ hlen
      obtain ⟨n, hn⟩ : ∃ n, n = L.length := ⟨_, rfl⟩
      rw [← hn] at hlen
      have hlen' : (n : Int) ≤ 17 := by omega
      have HN := Lib.hid hn
      clear hbk hL hn kz kn hmi hco k1 km hsu hlen
      go_wp2_with fail
      refine (CR.out _).mono ?_
      rintro e w4 ⟨rfl, hbw⟩
      have HB4 := Lib.hid (HB3.out.trans (hbw.mono HB3.out.size))
      have HO4 := Lib.hid (HO3.out.grow hbw)
      have HH4 := Lib.hid (HH3.out.grow hbw)
      clear hbw HB3 HO3 HH3 o0 o1 o2 o3 h0 h1 h2 h3 h4 h5 h6 CR
      have o0 := HO4.out.cell 0
      have o1 := HO4.out.cell 1
      have o2 := HO4.out.cell 2
      have o3 := HO4.out.cell 3
      have h0 := HH4.out.cell 0
      have h1 := HH4.out.cell 1
      have h2 := HH4.out.cell 2
      have h3 := HH4.out.cell 3
      have h4 := HH4.out.cell 4
      have h5 := HH4.out.cell 5
      have h6 := HH4.out.cell 6
      simp only [List.getElem?_cons_zero, List.getElem?_cons_succ] at o0 o1 o2 o3 h0 h1 h2 h3 h4 h5 h6
      go_wp2_with fail
      refine (CP.out _).mono ?_
      rintro e w5 ⟨v5, rfl, ho5, hbw⟩
      rw [← HN.out] at ho5
      obtain ⟨A5, c5, rfl, hc5, -, -⟩ := own_form ho5
      have HV5 := Lib.hid (show IsBytes L (.slice A5 n c5) w5 from by have h := IsBytes.of_own (l := L) (by rw [← HN.out]; exact ho5); exact h)
      have HB5 := Lib.hid (HB4.out.trans (hbw.mono HB4.out.size))
      have HH5 := Lib.hid (HH4.out.grow hbw)
      clear hbw ho5 HB4 HO4 HH4 o0 o1 o2 o3 h0 h1 h2 h3 h4 h5 h6 CP
      go_wp2_with fail
      refine wp_region_grow [⟨26, [], .is (.int .i64 0)⟩,
        ⟨27, [0], .is (.bool true)⟩,
        ⟨28, [1], .is (.bool true)⟩,
        ⟨29, [2], .is (.slice A5 n c5)⟩,
        ⟨30, [3, 2], .is (.string ⟨(L).toArray⟩)⟩,
        ⟨31, [2], .is (.agg #[.int .i64 (mo : Int), .int .i64 (ra : Int), .int .i64 (mi : Int), .int .i64 (co : Int), .int .u32 (su : Int), .int .i64 fr, .int .i64 pl])⟩,
        ⟨32, [5, 2], .bytes (L)⟩,
        ⟨33, [6, 2], .is (.string ⟨(L).toArray⟩)⟩,
        ⟨34, [4, 7, 2], .is (.bool true)⟩,
        ⟨35, [2, 8], .is (.bool true)⟩,
        ⟨36, [9], .is (.bool true)⟩,
        ⟨37, [10], .is (.slice A5 n c5)⟩,
        ⟨38, [11, 10], .is (.int .i64 (n : Int))⟩,
        ⟨39, [12, 10], .is (.bool true)⟩,
        ⟨40, [10, 13], .is (.bool true)⟩,
        ⟨41, [14], .is (.bool true)⟩,
        ⟨42, [15], .is (.bool true)⟩,
        ⟨43, [15, 16], .is (.bool true)⟩,
        ⟨4, [17], .is (.bool true)⟩]
        [(5, .int .i64 0), (6, .slice A5 n c5), (2, .pointer (some ⟨G, 0, none⟩))] (by kernel_rfl) (by kernel_rfl) (by kernel_rfl) (by kernel_rfl) (by kernel_rfl) ⟨rfl, rfl, rfl, trivial⟩ ?_ ?_
      · repeat' (first | exact OblGAll.nil | refine OblGAll.cons ?_ ?_)
        all_goals (intro ev yi w' hB hc hf ho hn; simp only [OutsSay, NeedSay, rowAt, Fact.says, and_true] at ho hn)
        all_goals (try ((simp [OpSays, execOp, Region.wanted, Fact.says, boolOf, go_sem, ho, hn, hc, Below.refl, hlen']; done)))
        · rw [if_pos (by simp [Region.wanted, hn, boolOf])]
          exact says_str rfl Try.underlying32 Try.underlying5 Try.underlying9 (by rw [hn.1]; exact HV5.out.grow hB) ⟨rfl, Below.refl _ _⟩
        · rw [if_pos (by simp [Region.wanted, hn, boolOf])]
          have q0 := (HH5.out.grow hB).cell 0
          have q1 := (HH5.out.grow hB).cell 1
          have q2 := (HH5.out.grow hB).cell 2
          have q3 := (HH5.out.grow hB).cell 3
          have q4 := (HH5.out.grow hB).cell 4
          have q5 := (HH5.out.grow hB).cell 5
          have q6 := (HH5.out.grow hB).cell 6
          simp only [List.getElem?_cons_zero, List.getElem?_cons_succ] at q0 q1 q2 q3 q4 q5 q6
          simp [OpSays, execOp, Fact.says, go_sem, ho, Below.refl, q0, q1, q2, q3, q4, q5, q6]
        · rw [if_pos (by simp [Region.wanted, hn, boolOf])]
          exact says_call Try.call12 (vs := #[.agg #[.int .i64 (mo : Int), .int .i64 (ra : Int), .int .i64 (mi : Int), .int .i64 (co : Int), .int .u32 (su : Int), .int .i64 fr, .int .i64 pl]]) rfl hf (by simp [hn]) ((CQ.out w').mono fun _ _ h => h.says)
        · rw [if_pos (by simp [Region.wanted, hn, boolOf])]
          exact says_str rfl Try.underlying32 Try.underlying5 Try.underlying9 hn.1 ⟨rfl, Below.refl _ _⟩
        · rw [if_pos (by simp [Region.wanted, hn, boolOf])]
          exact says_call Try.call8 (vs := #[]) rfl hf (by simp) ((CK.out w').mono fun _ _ h => ⟨_, h.1, rfl, h.2⟩)
      · intro X w4 hb4 hx
        have hlast : X 18 = .bool true := hx 18 (by decide)
        clear hx
        have HL := Lib.hid hlast
        clear hlast
        simp only [layAll, List.setIfInBounds_toArray, List.set_cons_succ, List.set_cons_zero]
        go_wp2
        go_ret
        exact ⟨congrArg Ending.returned HL.out, HB5.out.trans (hb4.mono HB5.out.size)⟩
end Go.Proofs.Ytcjjlkfenlmmlaa
