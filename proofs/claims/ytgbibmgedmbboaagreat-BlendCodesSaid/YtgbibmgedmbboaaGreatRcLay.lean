/- Layer 17: the reference's Lay. -/
import Derived.Test.YtgbibmgedmbboaaGreatRcDec
import Derived.Test.YtgbibmgedmbboaaGreatRcState
import Derived.Test.YtgbibmgedmbboaaGreatS3List
import Derived.Test.YtgbibmgedmbboaaGreatRegionOwn
namespace Go.Proofs.YtgbibmgedmbboaaGreat
open Go.RowKit Go.Sort

/-- The parts that may be. -/
def partOf (s : S3) : RcPart := ⟨s.kind.toNat, s.i.toNat, s.n.toNat⟩
def partsOf (ss : List S3) : List RcPart := (ss.filter fun s => mayP s.kind s.i s.n).map partOf
theorem partsOf_snoc (ss : List S3) (s : S3) : partsOf (ss ++ [s]) = partsOf ss ++ if mayP s.kind s.i s.n = true then [partOf s] else [] := by
  unfold partsOf
  rw [List.filter_append, List.map_append]
  congr 1
  by_cases h : mayP s.kind s.i s.n = true
  · rw [if_pos h]; simp [h]
  · rw [if_neg h]; simp [h]
theorem partOf_ok {s : S3} (h : mayP s.kind s.i s.n = true) : (partOf s).ok ∧ ((partOf s).low : Int) = s.kind ∧ ((partOf s).size : Int) = s.i ∧ ((partOf s).total : Int) = s.n := by
  obtain ⟨h1, h2, h3, h4⟩ := mayP_yes h
  exact ⟨⟨by simp only [partOf]; omega, by simp only [partOf]; omega, by simp only [partOf]; omega⟩, by simp only [partOf]; omega, by simp only [partOf]; omega, by simp only [partOf]; omega⟩
theorem partsOf_ok (ss : List S3) : ∀ p ∈ partsOf ss, p.ok := fun p hp => by
  obtain ⟨s, hs, rfl⟩ := List.mem_map.1 hp
  exact (partOf_ok (List.mem_filter.1 hs).2).1
theorem partsOf_len (ss : List S3) : (partsOf ss).length ≤ ss.length := by
  unfold partsOf; rw [List.length_map]; exact List.length_filter_le _ _
theorem take_snocS {α : Type} (l : List α) {k : Nat} (h : k < l.length) : l.take (k + 1) = l.take k ++ [l[k]] := by
  rw [List.take_add_one, List.getElem?_eq_getElem h]; rfl
/-- L's four bytes, as the walk says them. -/
theorem be4_vals {L : Nat} (hL : L < 4294967296) : ∃ a b c x y z t : Nat, IntKind.u64.wrap ((L : Int) / 16777216) = (a : Int) ∧ IntKind.u64.wrap ((L : Int) / 65536) = (b : Int) ∧ IntKind.u64.wrap ((L : Int) / 256) = (c : Int) ∧ IntKind.u8.wrap (a : Int) = (x : Int) ∧ IntKind.u8.wrap (b : Int) = (y : Int) ∧ IntKind.u8.wrap (c : Int) = (z : Int) ∧ IntKind.u8.wrap (L : Int) = (t : Int) ∧ be4 L = [x, y, z, t] ∧ x < 256 ∧ y < 256 ∧ z < 256 ∧ t < 256 := by
  refine ⟨L / 16777216, L / 65536, L / 256, L / 16777216, L / 65536 % 256, L / 256 % 256, L % 256, ?_, ?_, ?_, ?_, ?_, ?_, ?_, rfl, by omega, by omega, by omega, by omega⟩
  · rw [IntKind.wrap_u64]; omega
  · rw [IntKind.wrap_u64]; omega
  · rw [IntKind.wrap_u64]; omega
  · rw [IntKind.wrap_u8]; omega
  · rw [IntKind.wrap_u8]; omega
  · rw [IntKind.wrap_u8]; omega
  · rw [IntKind.wrap_u8]; omega
/-- What holds at the head of a round of Lay. -/
def LayRelP (w : World) (G : Nat) (ss : List S3) (v i : Value) (wr : World) : Prop :=
  ∃ (k L R : Nat) (o : List Nat), k ≤ ss.length ∧ i = .int .i64 (k : Int) ∧ Enc (partsOf (ss.take k)) L R o ∧ wr.ownsRow (G + 1) 5 1 v o.length (bvs (u8s o)) ∧ Blk wr G 86 [.int .u64 (L : Int), .int .u64 (R : Int)] ∧ Below w.heap.size w wr
section
variable {w : World} {A : Option Addr} {n m : Nat} {ss : List S3}
set_option maxHeartbeats 2000000 in
set_option maxRecDepth 100000 in
theorem rcLay_any (hr : RdS3 w w.heap.size A ss) (hn : ss.length = n) (hn1 : n ≤ 2000) :
    Calls Tryz.prog 19 #[.slice A n m] w fun e w' => ∃ (v : Value) (L R : Nat) (o : List Nat), Enc (partsOf ss) L R o ∧ e = .returned v ∧ w'.ownsRow w.heap.size 5 1 v (o ++ be4 L).length (bvs (u8s (o ++ be4 L))) ∧ Below w.heap.size w w' := by
  obtain ⟨i0, hi0, hz0, hz1, hz2⟩ := info_parts info_u8r
  obtain ⟨G, hG⟩ : ∃ G, G = w.heap.size := ⟨_, rfl⟩
  obtain ⟨w1, hw1⟩ : ∃ w1, w1 = w.alloc (.cells #[.int .u64 0, .int .u64 4294967295] 86) := ⟨_, rfl⟩
  have hb1 : Below w.heap.size w w1 := by rw [hw1]; exact (Below.refl _ _).alloc (Nat.le_refl _) _
  have hg1 : Blk w1 G 86 [.int .u64 ((0 : Nat) : Int), .int .u64 ((4294967295 : Nat) : Int)] := by rw [hw1, hG]; exact heap_alloc_new w _
  have HREL := Lib.hid (show LayRelP w G ss (.slice none 0 0) (.int .i64 ((0 : Nat) : Int)) w1 from ⟨0, 0, 4294967295, [], Nat.zero_le _, rfl, by simpa [partsOf] using Enc.nil, World.ownsRow_nil _ _ _ _, hg1, hb1⟩)
  have HR := Lib.hid hr
  have HN := Lib.hid hn
  have HW := Lib.hid hw1
  have HG := Lib.hid hG
  have hGs : G + 1 ≤ w1.heap.size := hg1.lt
  have hGw : G + 1 ≤ w1.heap.size ∧ G = w.heap.size := ⟨hGs, hG⟩
  have HGW := Lib.hid hGw
  clear hr hn hw1 hG hb1 hg1 hGs hGw
  go_enter Tryz.func19, Tryz.ntmps19
  go_wp2
  simp only [← HW.out, ← HG.out]
  go_loopw [4, 5] (LayRelP w G ss) (fun _ i _ => n - (intOf i).toNat)
  case atStart => exact HREL.out
  case round =>
    clear HREL
    obtain ⟨k, L, R, o, hk, rfl, henc, hown, hblk, hb⟩ := hrel
    have hins := henc.inside (partsOf_ok _)
    have hbs := hb.size
    obtain ⟨A1, c1, rfl, -, -, -⟩ := own_form hown
    have HE := Lib.hid henc
    have HI := Lib.hid hins
    have HOWN := Lib.hid hown
    have HBL := Lib.hid hblk
    have HB := Lib.hid hb
    have hol : o.length ≤ 14000 := by
      have h1 := hins.2.2.2
      have h2 := partsOf_len (ss.take k)
      rw [List.length_take] at h2
      have := HN.out
      omega
    have hgl : G < wr.heap.size := HBL.out.lt
    clear henc hins hown hblk hb
    by_cases hlt : k < n
    · have hks : k < ss.length := by have := HN.out; omega
      obtain ⟨ab, ao, rfl, hab, hc0, hc1, hc2⟩ := HR.out k ss[k] (List.getElem?_eq_getElem hks)
      have hsn := take_snocS ss hks
      obtain ⟨⟨lo, sz, to⟩, hs⟩ : ∃ s, s = ss[k]'hks := ⟨_, rfl⟩
      rw [← hs] at hc0 hc1 hc2 hsn
      have hd0 := (HB.out.cell (p := ⟨ab, _, none⟩) hab).trans hc0
      have hd1 := (HB.out.cell (p := ⟨ab, _, none⟩) hab).trans hc1
      have hd2 := (HB.out.cell (p := ⟨ab, _, none⟩) hab).trans hc2
      simp only at hd0 hd1 hd2
      have HC0 := Lib.hid hc0
      have HC1 := Lib.hid hc1
      have HC2 := Lib.hid hc2
      have HSN := Lib.hid hsn
      have hki : (k : Int) < (n : Int) := by omega
      have C1 := Lib.hid (fun W => rcMay_any lo sz to W)
      clear hc0 hc1 hc2 hsn hs
      cases hmay : mayP lo sz to with
      | false =>
        rw [hmay] at C1
        have HE2 := Lib.hid (show Enc (partsOf (ss.take (k + 1))) L R o by rw [HSN.out, partsOf_snoc, hmay]; simpa using HE.out)
        clear hmay HE
        go_wp2_with fail
        refine (C1.out _).mono ?_
        rintro _ w2 ⟨rfl, hb2⟩
        have HOWN2 := Lib.hid (own_kept HOWN.out hb2)
        have HBL2 := Lib.hid (HBL.out.grow hb2)
        have HB2 := Lib.hid (HB.out.trans (hb2.mono hbs))
        clear hb2 hd0 hd1 hd2 C1 HOWN HBL HB
        go_wp2
        go_roundw
        case rel => exact ⟨k + 1, L, R, o, by omega, by go_num, HE2.out, HOWN2.out, HBL2.out, HB2.out⟩
        case measure => simp [intOf]; omega
      | true =>
        obtain ⟨hpk, -, -, -⟩ := partOf_ok (s := ⟨lo, sz, to⟩) hmay
        obtain ⟨o2, L', R', hmv, henc2⟩ := HE.out.more (partsOf_ok _) hpk
        have hy := mayP_yes hmay
        rw [hmay] at C1
        have HE2 := Lib.hid (show Enc (partsOf (ss.take (k + 1))) L' R' (o ++ o2) by rw [HSN.out, partsOf_snoc, hmay, if_pos rfl]; exact henc2)
        obtain ⟨a, rfl⟩ := Int.eq_ofNat_of_zero_le hy.1
        obtain ⟨b, rfl⟩ := Int.eq_ofNat_of_zero_le (show 0 ≤ sz by omega)
        obtain ⟨c, rfl⟩ := Int.eq_ofNat_of_zero_le (show 0 ≤ to by omega)
        obtain ⟨p1, p2, p3⟩ := hpk
        simp only [partOf, Int.toNat_natCast] at hmv p1 p2 p3
        obtain ⟨n1, n2, n3, n4⟩ := narrow_span HI.out.1 HI.out.2.1 p1 p2 p3
        have hol2 := hmv.few n4
        have C2 := Lib.hid (fun (W : World) (hbl : Blk W G 86 [.int .u64 (L : Int), .int .u64 (R : Int)]) => rcNarrow_any hbl HI.out.1 HI.out.2.1 p1 p2 p3 hmv)
        clear hmay henc2 hmv hy p1 p2 p3 n1 n2 n3 n4 HE HSN
        go_wp2_with fail
        refine (C1.out _).mono ?_
        rintro _ w2 ⟨rfl, hb2⟩
        have hw2 := HB.out.trans (hb2.mono hbs)
        have hd0 := (hw2.cell (p := ⟨ab, _, none⟩) hab).trans HC0.out
        have hd1 := (hw2.cell (p := ⟨ab, _, none⟩) hab).trans HC1.out
        have hd2 := (hw2.cell (p := ⟨ab, _, none⟩) hab).trans HC2.out
        have HOWN2 := Lib.hid (own_kept HOWN.out hb2)
        have HBL2 := Lib.hid (HBL.out.grow hb2)
        have HB2 := Lib.hid hw2
        have hs2 : G + 1 ≤ w2.heap.size := Nat.le_trans hgl hb2.size
        clear hb2 hw2 C1 HOWN HBL HB
        go_wp2_with fail
        refine (C2.out _ HBL2.out).mono ?_
        rintro _ w3 ⟨v3, rfl, hown3, hbl3, ht3⟩
        obtain ⟨A3, c3, rfl, -, -, -⟩ := own_form hown3
        have HOWN3 := Lib.hid (own_turns HOWN2.out ht3 (Nat.lt_succ_self _) (Nat.lt_succ_self _))
        have HRD3 := Lib.hid (Rd.of_own hown3)
        have HBL3 := Lib.hid hbl3
        have HB3 := Lib.hid (HB2.out.trans (ht3.below (B := w.heap.size) (by rw [HGW.out.2]; exact Nat.le_refl _) (by rw [HGW.out.2]; exact Nat.le_refl _) (by have := HGW.out.2; omega)))
        have hs3 : G + 1 ≤ w3.heap.size := Nat.le_trans hs2 ht3.size
        have HZ := Lib.hid (show (bvs (u8s o2)).length = o2.length * 1 by rw [bvs_length, u8s_length, Nat.mul_one])
        have hA1 : o.length + o2.length ≤ maxLen := by simp only [maxLen]; omega
        have hA2 : (o.length + o2.length) * 1 ≤ 140737488355328 := by omega
        clear hown3 hbl3 ht3 C2 HOWN2 HBL2 HB2 hd0 hd1 hd2
        go_wp2_with ((with_reducible show wpList _ _ _ (({ dst := some 26, op := _, type := _, pos := _, after := _, guard := _ } : Oper) :: _) _ _); go_must (refine wpList_app rfl (.tmp 19) (.tmp 25) 22 rfl (G + 1) 5 i0 (.int .u8 0) 1 1 Tryz.underlying22 hi0 hz0 hz1 hz2 rfl (by decide) _ _ _ rfl HOWN3.out w3.heap.size A3 o2.length c3 (bvs (u8s o2)) rfl HRD3.out HZ.out (bvs_one _) hA1 hA2 hs3 ?_; intro v4 w4 hown4 hg4; have hrow := own_block HOWN3.out; have hbl4 := blk_row HBL3.out hg4 (fun r e => by have := hrow r e; omega); have hb4 := HB3.out.grown hg4 HB3.out.size (fun r e => by have := hrow r e; have := HGW.out.2; omega); clear hg4 hrow))
        rw [← bvs_append, ← u8s_append] at hown4
        go_roundw
        case rel => exact ⟨k + 1, L', R', o ++ o2, by omega, by go_num, HE2.out, by rw [List.length_append]; exact hown4, hbl4, hb4⟩
        case measure => simp [intOf]; omega
    · obtain rfl : k = n := by have := HN.out; omega
      have HE2 := Lib.hid (show Enc (partsOf ss) L R o by have h := HE.out; rw [List.take_of_length_le (by have := HN.out; omega)] at h; exact h)
      obtain ⟨a, b, c, x, y, z, t, e1, e2, e3, e4, e5, e6, e7, e8, f1, f2, f3, f4⟩ := be4_vals (L := L) HI.out.1.1
      have hc0 := HBL.out.cell 0
      simp only [List.getElem?_cons_zero] at hc0
      clear HE
      go_wp2
      have hrow := own_block HOWN.out
      refine wp_region_own [⟨27, [], .is (.slice A1 o.length c1)⟩,
    ⟨28, [], .is (.pointer (some ⟨G, 0, none⟩))⟩,
    ⟨29, [1], .is (.pointer (some ⟨G, 0, none⟩))⟩,
    ⟨30, [2], .is (.pointer (some ⟨G, 0, none⟩))⟩,
    ⟨31, [3], .is (.int .u64 (L : Int))⟩,
    ⟨32, [4], .is (.int .u64 (a : Int))⟩,
    ⟨33, [5], .is (.int .u8 (x : Int))⟩,
    ⟨34, [], .is (.pointer (some ⟨G, 0, none⟩))⟩,
    ⟨35, [7], .is (.pointer (some ⟨G, 0, none⟩))⟩,
    ⟨36, [8], .is (.pointer (some ⟨G, 0, none⟩))⟩,
    ⟨37, [9], .is (.int .u64 (L : Int))⟩,
    ⟨38, [10], .is (.int .u64 (b : Int))⟩,
    ⟨39, [11], .is (.int .u8 (y : Int))⟩,
    ⟨40, [], .is (.pointer (some ⟨G, 0, none⟩))⟩,
    ⟨41, [13], .is (.pointer (some ⟨G, 0, none⟩))⟩,
    ⟨42, [14], .is (.pointer (some ⟨G, 0, none⟩))⟩,
    ⟨43, [15], .is (.int .u64 (L : Int))⟩,
    ⟨44, [16], .is (.int .u64 (c : Int))⟩,
    ⟨45, [17], .is (.int .u8 (z : Int))⟩,
    ⟨46, [], .is (.pointer (some ⟨G, 0, none⟩))⟩,
    ⟨47, [19], .is (.pointer (some ⟨G, 0, none⟩))⟩,
    ⟨48, [20], .is (.pointer (some ⟨G, 0, none⟩))⟩,
    ⟨49, [21], .is (.int .u64 (L : Int))⟩,
    ⟨50, [22], .is (.int .u8 (t : Int))⟩,
    ⟨51, [6, 12, 18, 23], .such (NewFour wr.heap.size [x, y, z, t]) (NewFour.grow wr.heap.size [x, y, z, t])⟩,
    ⟨52, [0, 24], .such (OwnB (G + 1) (o ++ [x, y, z, t])) (OwnB.grow (G + 1) (o ++ [x, y, z, t]))⟩,
    ⟨2, [25], .such (OwnB (G + 1) (o ++ [x, y, z, t])) (OwnB.grow (G + 1) (o ++ [x, y, z, t]))⟩]
        [(4, .slice A1 o.length c1), (3, .pointer (some ⟨G, 0, none⟩))]
        25 (G + 1) 5 1 (.slice A1 o.length c1) o.length (bvs (u8s o)) HOWN.out HBL.out.lt ?_ (by kernel_rfl) (by kernel_rfl) (by kernel_rfl) (by kernel_rfl) (by kernel_rfl) ⟨rfl, rfl, trivial⟩ ?_ ?_ ?_
      · intro j hj hpre v w' w'' hG hg hF
        iterate 24 (rcases j with _ | j; · exact hF)
        rcases j with _ | j
        · obtain ⟨g, h1, h2, h3⟩ := hF
          exact ⟨g, h1, h2, blk_row h3 hg (fun r e => by have h4 := (HOWN.out.lt r e).2; omega)⟩
        rcases j with _ | j
        · exact absurd rfl hj
        rcases j with _ | j
        · exact absurd (by decide) (hpre _ rfl)
        · exact hF
      · repeat' (first | exact OblHAll.nil | refine OblHAll.cons ?_ ?_)
        all_goals (first | exact (fun h => absurd rfl h) | (intro _ ev yi w1 hB hc hf ho hn; simp only [OutsSay, NeedSay, rowAt, Fact.says, and_true] at ho hn))
        all_goals (try ((simp [OpSays, execOp, Region.wanted, Fact.says, go_sem, ho, hn, hc, Below.refl, e1, e2, e3, e4, e5, e6, e7]; done)))
        · rw [if_pos (by simp [Region.wanted])]
          have hcc := (HBL.out.below hB.1 (Nat.lt_succ_self _)).cell 0
          simp only [List.getElem?_cons_zero] at hcc
          simp [OpSays, execOp, go_sem, hn, hcc, Fact.says, Below.refl]
        · rw [if_pos (by simp [Region.wanted])]
          have hcc := (HBL.out.below hB.1 (Nat.lt_succ_self _)).cell 0
          simp only [List.getElem?_cons_zero] at hcc
          simp [OpSays, execOp, go_sem, hn, hcc, Fact.says, Below.refl]
        · rw [if_pos (by simp [Region.wanted])]
          have hcc := (HBL.out.below hB.1 (Nat.lt_succ_self _)).cell 0
          simp only [List.getElem?_cons_zero] at hcc
          simp [OpSays, execOp, go_sem, hn, hcc, Fact.says, Below.refl]
        · rw [if_pos (by simp [Region.wanted])]
          have hcc := (HBL.out.below hB.1 (Nat.lt_succ_self _)).cell 0
          simp only [List.getElem?_cons_zero] at hcc
          simp [OpSays, execOp, go_sem, hn, hcc, Fact.says, Below.refl]
        · rw [if_pos (by simp [Region.wanted])]
          simp [OpSays, execOp, go_sem, hn]
          exact ⟨⟨w1.heap.size, rfl, hB.2, heap_alloc_new w1 _⟩, (Below.refl _ _).alloc (Nat.le_refl _) _⟩
      · intro o1 ho1
        obtain rfl : _ = o1 := Option.some.inj ho1
        intro ev yi w1 hB how hc hf ho hn
        simp only [OutsSay, NeedSay, rowAt, Fact.says, and_true] at ho hn
        rw [if_pos (by simp [Region.wanted])]
        obtain ⟨h27, -, ⟨g5, h51, hg5, hb5⟩, -⟩ := hn
        refine says_app rfl (G + 1) 5 i0 (.int .u8 0) 1 1 Tryz.underlying22 hi0 hz0 hz1 hz2 rfl (by decide) _ _ _ h27 how w1.heap.size (some ⟨g5, 0, none⟩) 4 4 _ h51 (Rd.of_blk hb5) rfl (by intro u hu; simp at hu; rcases hu with rfl | rfl | rfl | rfl <;> rfl) (by simp only [maxLen]; omega) (by omega) (Nat.le_trans hgl hB.2) ?_
        intro v' w' h1 h2
        refine ⟨?_, h2⟩
        show w'.ownsRow (G + 1) 5 1 v' (o ++ [x, y, z, t]).length (bvs (u8s (o ++ [x, y, z, t])))
        rw [show (o ++ [x, y, z, t]).length = o.length + 4 by simp, u8s_four o f1 f2 f3 f4]
        exact h1
      · intro X w4 hb4 hx
        have h2 : OwnB (G + 1) (o ++ [x, y, z, t]) (X 26) w4 := hx 26 (by decide)
        clear hx
        have H2 := Lib.hid h2
        have H8 := Lib.hid e8
        have H4 := Lib.hid hb4
        clear h2 hb4 e1 e2 e3 e4 e5 e6 e7 e8 hc0 hrow
        simp only [layAll, List.setIfInBounds_toArray, List.set_cons_succ, List.set_cons_zero, Nat.zero_add, Nat.reduceAdd]
        go_wp2
        go_ret
        exact ⟨X 26, L, R, o, HE2.out, rfl, by rw [H8.out]; exact own_more H2.out (by have := HGW.out.2; omega), HB.out.trans (H4.out.1.mono (by have := HGW.out.2; omega))⟩
end
end Go.Proofs.YtgbibmgedmbboaaGreat
