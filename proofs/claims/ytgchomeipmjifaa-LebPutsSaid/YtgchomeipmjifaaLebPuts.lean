/- The walk of LebPuts. -/
import Derived.Test.YtgchomeipmjifaaLebLaws
namespace Go.Proofs.Ytgchomeipmjifaa
open Go.RowKit

theorem bytes_append (a b : List UInt8) : (⟨a.toArray⟩ : ByteArray) ++ ⟨b.toArray⟩ = ⟨(a ++ b).toArray⟩ := by
  apply ByteArray.ext
  simp

set_option maxHeartbeats 2000000 in
set_option maxRecDepth 100000 in
theorem lebPuts_any (A : Option Addr) (n c : Nat) (l : List UInt8) (N : Nat) (i : Int) (w : World) (hN : N < 18446744073709551616) (hi0 : -9223372036854775808 ≤ i) (hi1 : i ≤ 9223372036854775807)
    (hr : Rd w w.heap.size A (bvs l)) (hn : l.length = n) (hnc : n ≤ c) :
    Calls Try.prog 7 #[.slice A n c, .int .u64 N, .int .i64 i] w (Yes w) := by
  by_cases h100 : (100 : Int) < n
  · go_enter Try.func7, Try.ntmps7
    go_wp2_with (go_at_call 31; refine (lebKnown_any _).mono ?_; rintro e w' ⟨rfl, hb⟩)
    go_ret
    exact ⟨rfl, hb⟩
  · obtain ⟨i0, hi, hz0, hz1, hz2⟩ := info_parts info_u8
    have hn100 : n ≤ 100 := by omega
    have hfr := foldI_range i hi0 hi1
    obtain ⟨S, hS⟩ : ∃ S : Nat, S = (lput N).length := ⟨_, rfl⟩
    obtain ⟨F, hF⟩ : ∃ F : Nat, F = (foldI i).toNat := ⟨_, rfl⟩
    have c3 := fun (W : World) => refPut_any N W (by omega) (by omega)
    have c9 := fun (W : World) => refPut_any (foldI i) W hfr.1 hfr.2
    have c2 := fun (W : World) => lebSize_any N W (by omega) (by omega)
    have c4 := fun (W : World) => lebFold_any i W hi0 hi1
    have c5 := fun (W : World) => refFold_any i W hi0 hi1
    have c6 := fun (W : World) => lebUnfold_any N W (by omega) (by omega)
    have c7 := fun (W : World) => refUnfold_any N W (by omega) (by omega)
    rw [← hF] at c9
    simp only [Int.toNat_natCast] at c3 c2
    rw [← hS] at c2
    have hln : ¬ 9223372036854775807 < l.length + (lput N).length := by have := lput_le N hN; omega
    have hlf : ¬ 9223372036854775807 < l.length + (lput F).length := by have := lput_le F (by omega); omega
    have HLN := Lib.hid hln
    have HLF := Lib.hid hlf
    have hc2l : (bvs l).length = n * 1 := by rw [bvs_length, hn, Nat.mul_one]
    have C2 := Lib.hid c2
    have C3 := Lib.hid c3
    have C4 := Lib.hid c4
    have C5 := Lib.hid c5
    have C6 := Lib.hid c6
    have C7 := Lib.hid c7
    have C9 := Lib.hid c9
    have HS := Lib.hid hS
    have HF := Lib.hid hF
    have HN := Lib.hid hn
    have HC2 := Lib.hid hc2l
    have HR := Lib.hid hr
    clear c2 c3 c4 c5 c6 c7 c9 hS hF hn hc2l hr hln hlf
    go_enter Try.func7, Try.ntmps7
    go_wp2_with (at_builtin; go_must (refine wpList_app rfl (.tmp 13) (.tmp 14) 25 rfl w.heap.size 5 i0 (.int .u8 0) 1 1 Try.underlying25 hi hz0 hz1 hz2 rfl (by decide) _ 0 [] rfl (World.ownsRow_made w #[] 0 (Nat.le_refl _) (Nat.zero_le _) rfl) w.heap.size _ n _ (bvs l) rfl (HR.out.alloc (Nat.le_refl _) _) HC2.out (bvs_one _) (by simp only [maxLen]; omega) (by omega) (by simp) ?_; intro v2 w2 hown2 hg2; rw [Nat.zero_add, List.nil_append] at hown2; have hb2 : Below w.heap.size w w2 := ((Below.refl _ _).alloc (Nat.le_refl _) _).grown hg2 (by simp) (own_block (World.ownsRow_made (e := 5) (size := 1) w #[] 0 (Nat.le_refl _) (Nat.zero_le _) rfl)); obtain ⟨A2, k2, rfl, hk2, -, -⟩ := own_form hown2; have HR2 := Lib.hid (Rd.of_own hown2); have HR1 := Lib.hid ((HR.out.below hb2).more hb2.size); clear hown2 hg2))
    refine wp_region_grow [⟨16, [], .is (.slice A n c)⟩,
        ⟨17, [0], .is (.string ⟨(l).toArray⟩)⟩,
        ⟨18, [], .is (.int .u64 N)⟩,
        ⟨19, [2], .bytes (lput N)⟩,
        ⟨20, [3], .is (.string ⟨(lput N).toArray⟩)⟩,
        ⟨21, [1, 4], .is (.string ⟨(l ++ lput N).toArray⟩)⟩,
        ⟨8, [5], .is (.string ⟨(l ++ lput N).toArray⟩)⟩]
        [(0, .slice A n c), (1, .int .u64 N)] (by kernel_rfl) (by kernel_rfl) (by kernel_rfl) (by kernel_rfl) (by kernel_rfl) ⟨rfl, rfl, trivial⟩ ?_ ?_
    · repeat' (first | exact OblGAll.nil | refine OblGAll.cons ?_ ?_)
      all_goals (intro ev yi w1 hB hc hf ho hn; simp only [OutsSay, NeedSay, rowAt, Fact.says, and_true] at ho hn)
      all_goals (try ((simp [OpSays, execOp, Region.wanted, Fact.says, go_sem, ho, hn, Below.refl]; done)))
      · skip
        exact says_str (l := l) rfl Try.underlying25 Try.underlying5 Try.underlying9 ⟨A, c, by rw [hn.1, HN.out], by rw [HN.out]; omega, (HR1.out.below hB).more hB.size⟩ ⟨rfl, Below.refl _ _⟩
      · skip
        exact says_call Try.call32 rfl hf (by simp only [List.map_toArray, List.map_cons, List.map_nil, hn]) ((C3.out w1).mono fun _ _ => NewB.says)
      · skip
        exact says_str rfl Try.underlying25 Try.underlying5 Try.underlying9 hn.1 ⟨rfl, Below.refl _ _⟩
      simp [OpSays, execOp, Region.wanted, go_sem, hn, bytes_append, Fact.says, Below.refl, HLN.out]
    · intro x w3 hb3 hx
      have h6 : x 6 = .string ⟨(l ++ lput N).toArray⟩ := hx 6 (by decide)
      clear hx
      have H6 := Lib.hid h6
      clear h6
      have HR1' := Lib.hid ((HR1.out.below hb3).more hb3.size)
      have HR2' := Lib.hid ((HR2.out.below hb3).more hb3.size)
      clear HR1 HR2
      have HR1 := HR1'
      have HR2 := HR2'
      clear HR1' HR2'
      have c1 := fun (W : World) (h : Rd W W.heap.size A2 (bvs l)) => lebPut_any A2 n k2 l N W h HN.out (by omega) (by omega) (by omega)
      have c8 := fun (W : World) (h : Rd W W.heap.size A2 (bvs l)) => lebPutInt_any A2 n k2 l i W h HN.out (by omega) hi0 hi1
      simp only [Int.toNat_natCast] at c1
      rw [← HF.out] at c8
      have C1 := Lib.hid c1
      have C8 := Lib.hid c8
      clear c1 c8
      simp only [layAll, List.setIfInBounds_toArray, List.set_cons_succ, List.set_cons_zero]
      go_wp2
      refine wp_region_grow [⟨22, [], .is (.slice A2 n k2)⟩,
        ⟨23, [], .is (.int .u64 N)⟩,
        ⟨24, [0, 1], .bytes (l ++ lput N)⟩,
        ⟨25, [2], .is (.string ⟨(l ++ lput N).toArray⟩)⟩,
        ⟨26, [], .is (.string ⟨(l ++ lput N).toArray⟩)⟩,
        ⟨27, [3, 4], .is (.bool true)⟩,
        ⟨28, [5], .is (.bool true)⟩,
        ⟨29, [6], .is (.int .u64 N)⟩,
        ⟨30, [7, 6], .is (.int .i64 S)⟩,
        ⟨31, [6], .is (.int .u64 N)⟩,
        ⟨32, [9, 6], .bytes (lput N)⟩,
        ⟨33, [10, 6], .is (.int .i64 S)⟩,
        ⟨34, [8, 11, 6], .is (.bool true)⟩,
        ⟨35, [6, 12], .is (.bool true)⟩,
        ⟨36, [13], .is (.bool true)⟩,
        ⟨37, [14], .is (.int .i64 i)⟩,
        ⟨38, [15, 14], .is (.int .u64 (foldI i))⟩,
        ⟨39, [14], .is (.int .i64 i)⟩,
        ⟨40, [17, 14], .is (.int .u64 (foldI i))⟩,
        ⟨41, [16, 18, 14], .is (.bool true)⟩,
        ⟨42, [14, 19], .is (.bool true)⟩,
        ⟨43, [20], .is (.bool true)⟩,
        ⟨44, [21], .is (.int .u64 N)⟩,
        ⟨45, [22, 21], .is (.int .i64 (unfoldI N))⟩,
        ⟨46, [21], .is (.int .u64 N)⟩,
        ⟨47, [24, 21], .is (.int .i64 (unfoldI N))⟩,
        ⟨48, [23, 25, 21], .is (.bool true)⟩,
        ⟨49, [21, 26], .is (.bool true)⟩,
        ⟨50, [27], .is (.bool true)⟩,
        ⟨51, [28], .is (.slice A2 n k2)⟩,
        ⟨52, [28], .is (.int .i64 i)⟩,
        ⟨53, [29, 30, 28], .bytes (l ++ lput F)⟩,
        ⟨54, [31, 28], .is (.string ⟨(l ++ lput F).toArray⟩)⟩,
        ⟨55, [28], .is (.slice A n c)⟩,
        ⟨56, [33, 28], .is (.string ⟨(l).toArray⟩)⟩,
        ⟨57, [28], .is (.int .i64 i)⟩,
        ⟨58, [35, 28], .is (.int .u64 (foldI i))⟩,
        ⟨59, [36, 28], .bytes (lput F)⟩,
        ⟨60, [37, 28], .is (.string ⟨(lput F).toArray⟩)⟩,
        ⟨61, [34, 38, 28], .is (.string ⟨(l ++ lput F).toArray⟩)⟩,
        ⟨62, [32, 39, 28], .is (.bool true)⟩,
        ⟨63, [28, 40], .is (.bool true)⟩,
        ⟨64, [41], .is (.bool true)⟩,
        ⟨65, [42], .is (.slice A2 n k2)⟩,
        ⟨66, [43, 42], .is (.string ⟨(l).toArray⟩)⟩,
        ⟨67, [42], .is (.slice A n c)⟩,
        ⟨68, [45, 42], .is (.string ⟨(l).toArray⟩)⟩,
        ⟨69, [44, 46, 42], .is (.bool true)⟩,
        ⟨70, [42, 47], .is (.bool true)⟩,
        ⟨71, [48], .is (.bool true)⟩,
        ⟨72, [49], .is (.bool true)⟩,
        ⟨73, [49, 50], .is (.bool true)⟩,
        ⟨6, [51], .is (.bool true)⟩]
        [(7, .slice A2 n k2), (1, .int .u64 N), (8, .string ⟨(l ++ lput N).toArray⟩), (2, .int .i64 i), (0, .slice A n c)] (by kernel_rfl) (by kernel_rfl) (by kernel_rfl) (by kernel_rfl) (by kernel_rfl) ⟨rfl, rfl, H6.out, rfl, rfl, trivial⟩ ?_ ?_
      · repeat' (first | exact OblGAll.nil | refine OblGAll.cons ?_ ?_)
        all_goals (intro ev yi w1 hB hc hf ho hn; simp only [OutsSay, NeedSay, rowAt, Fact.says, and_true] at ho hn)
        all_goals (try ((simp [OpSays, execOp, Region.wanted, Fact.says, boolOf, go_sem, ho, hn, hc, Below.refl]; done)))
        · skip
          exact says_call Try.call33 rfl hf (by simp only [List.map_toArray, List.map_cons, List.map_nil, hn]) ((C1.out w1 ((HR2.out.below hB).more hB.size)).mono fun _ _ => NewB.says)
        · skip
          exact says_str rfl Try.underlying25 Try.underlying5 Try.underlying9 hn.1 ⟨rfl, Below.refl _ _⟩
        · rw [if_pos (by simp [Region.wanted, hn, boolOf])]
          exact says_call Try.call34 rfl hf (by simp only [List.map_toArray, List.map_cons, List.map_nil, hn]) ((C2.out w1).mono fun _ _ h => ⟨_, h.1, rfl, h.2 ▸ Below.refl _ _⟩)
        · rw [if_pos (by simp [Region.wanted, hn, boolOf])]
          exact says_call Try.call32 rfl hf (by simp only [List.map_toArray, List.map_cons, List.map_nil, hn]) ((C3.out w1).mono fun _ _ => NewB.says)
        · rw [if_pos (by simp [Region.wanted, hn, boolOf])]
          obtain ⟨A9, c9, hv, -, -⟩ := hn.1
          simp [OpSays, go_sem, hv, Fact.says, Below.refl, HS.out]
        · rw [if_pos (by simp [Region.wanted, hn, boolOf])]
          exact says_call Try.call35 rfl hf (by simp only [List.map_toArray, List.map_cons, List.map_nil, hn]) ((C4.out w1).mono fun _ _ h => ⟨_, h.1, rfl, h.2 ▸ Below.refl _ _⟩)
        · rw [if_pos (by simp [Region.wanted, hn, boolOf])]
          exact says_call Try.call36 rfl hf (by simp only [List.map_toArray, List.map_cons, List.map_nil, hn]) ((C5.out w1).mono fun _ _ h => ⟨_, h.1, rfl, h.2 ▸ Below.refl _ _⟩)
        · rw [if_pos (by simp [Region.wanted, hn, boolOf])]
          exact says_call Try.call37 rfl hf (by simp only [List.map_toArray, List.map_cons, List.map_nil, hn]) ((C6.out w1).mono fun _ _ h => ⟨_, h.1, rfl, h.2 ▸ Below.refl _ _⟩)
        · rw [if_pos (by simp [Region.wanted, hn, boolOf])]
          exact says_call Try.call38 rfl hf (by simp only [List.map_toArray, List.map_cons, List.map_nil, hn]) ((C7.out w1).mono fun _ _ h => ⟨_, h.1, rfl, h.2 ▸ Below.refl _ _⟩)
        · rw [if_pos (by simp [Region.wanted, hn, boolOf])]
          exact says_call Try.call39 rfl hf (by simp only [List.map_toArray, List.map_cons, List.map_nil, hn]) ((C8.out w1 ((HR2.out.below hB).more hB.size)).mono fun _ _ => NewB.says)
        · rw [if_pos (by simp [Region.wanted, hn, boolOf])]
          exact says_str rfl Try.underlying25 Try.underlying5 Try.underlying9 hn.1 ⟨rfl, Below.refl _ _⟩
        · rw [if_pos (by simp [Region.wanted, hn, boolOf])]
          exact says_str (l := l) rfl Try.underlying25 Try.underlying5 Try.underlying9 ⟨A, c, by rw [hn.1, HN.out], by rw [HN.out]; omega, (HR1.out.below hB).more hB.size⟩ ⟨rfl, Below.refl _ _⟩
        · rw [if_pos (by simp [Region.wanted, hn, boolOf])]
          exact says_call Try.call36 rfl hf (by simp only [List.map_toArray, List.map_cons, List.map_nil, hn]) ((C5.out w1).mono fun _ _ h => ⟨_, h.1, rfl, h.2 ▸ Below.refl _ _⟩)
        · rw [if_pos (by simp [Region.wanted, hn, boolOf])]
          exact says_call Try.call32 rfl hf (by simp only [List.map_toArray, List.map_cons, List.map_nil, hn]) ((C9.out w1).mono fun _ _ => NewB.says)
        · rw [if_pos (by simp [Region.wanted, hn, boolOf])]
          exact says_str rfl Try.underlying25 Try.underlying5 Try.underlying9 hn.1 ⟨rfl, Below.refl _ _⟩
        · rw [if_pos (by simp [Region.wanted, hn, boolOf])]
          simp [OpSays, execOp, go_sem, hn, bytes_append, Fact.says, Below.refl, HLF.out]
        · rw [if_pos (by simp [Region.wanted, hn, boolOf])]
          exact says_str (l := l) rfl Try.underlying25 Try.underlying5 Try.underlying9 ⟨A2, k2, by rw [hn.1, HN.out], by rw [HN.out]; omega, (HR2.out.below hB).more hB.size⟩ ⟨rfl, Below.refl _ _⟩
        · rw [if_pos (by simp [Region.wanted, hn, boolOf])]
          exact says_str (l := l) rfl Try.underlying25 Try.underlying5 Try.underlying9 ⟨A, c, by rw [hn.1, HN.out], by rw [HN.out]; omega, (HR1.out.below hB).more hB.size⟩ ⟨rfl, Below.refl _ _⟩
        · rw [if_pos (by simp [Region.wanted, hn, boolOf])]
          exact says_call Try.call31 rfl hf (by simp) ((lebKnown_any w1).mono fun _ _ h => ⟨_, h.1, rfl, h.2⟩)
      · intro y w4 hb4 hy
        have h52 : y 52 = .bool true := hy 52 (by decide)
        clear hy
        have H52 := Lib.hid h52
        clear h52
        simp only [layAll, List.setIfInBounds_toArray, List.set_cons_succ, List.set_cons_zero]
        go_wp2
        go_ret
        have h2 := hb2.size
        have h3 := hb3.size
        exact ⟨congrArg Ending.returned H52.out, (hb2.trans (hb3.mono h2)).trans (hb4.mono (by omega))⟩
end Go.Proofs.Ytgchomeipmjifaa
