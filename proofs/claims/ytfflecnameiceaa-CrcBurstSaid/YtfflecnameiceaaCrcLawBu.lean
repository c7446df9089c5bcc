/- Law CrcBurst. -/
import Derived.Test.YtfflecnameiceaaCrcTurn
import Derived.Deep.DeepMust
namespace Go.Proofs.Ytfflecnameiceaa
open Go.RowKit

theorem turn_told (b : List UInt8) (q p : Nat) (h : crcOf b = crcOf (turnB b q p 32)) : b = turnB b q p 32 :=
  crc_burst q (turnB_len b q p 32).symm (fun k _ hne => turnB_bit b q p k 32 (Ne.symm hne)) h
set_option maxHeartbeats 2000000 in
set_option maxRecDepth 100000 in
theorem crcBurst_law (A : Option Addr) (n c : Nat) (b : List UInt8) (a p : Nat) (w : World) (hr : Rd w w.heap.size A (bvs b)) (hn : b.length = n) (hnc : n ≤ c) (hn1 : n ≤ 9223372036854775807) (ha : a ≤ 4294967295) :
    Calls Try.prog 6 #[.slice A n c, .int .u32 (a : Int), .int .u32 (p : Int)] w (Yes w) := by
  subst hn
  by_cases hz : b.length = 0
  · have hz0 : ((b.length : Int) == 0) = true := by rw [beq_iff_eq]; omega
    have HZ := Lib.hid hz
    clear hz
    go_enter Try.func6, Try.ntmps6
    go_wp2_with fail
    refine (crcMake_any _).mono ?_
    rintro e w1 ⟨g, rfl, hg, ht, hb1⟩
    go_wp2_with fail
    refine (crcKnown_any _).mono ?_
    rintro e w2 ⟨rfl, hb2⟩
    have hbb := hb1.trans (hb2.mono hb1.size)
    clear hb1 hb2
    go_wp2
    go_ret
    exact ⟨rfl, hbb⟩
  · have hz0 : ((b.length : Int) == 0) = false := by rw [beq_eq_false_iff_ne]; omega
    by_cases h3 : (300 : Int) < (b.length : Int)
    · go_enter Try.func6, Try.ntmps6
      go_wp2_with fail
      refine (crcMake_any _).mono ?_
      rintro e w1 ⟨g, rfl, hg, ht, hb1⟩
      go_wp2_with fail
      refine (crcKnown_any _).mono ?_
      rintro e w2 ⟨rfl, hb2⟩
      have hbb := hb1.trans (hb2.mono hb1.size)
      clear hb1 hb2
      go_wp2
      go_ret
      exact ⟨rfl, hbb⟩
    · obtain ⟨q, hq⟩ : ∃ q, q = a % (8 * b.length) := ⟨_, rfl⟩
      have hq8 : q < 8 * b.length := by rw [hq]; exact Nat.mod_lt _ (by omega)
      have hqm : (a : Int) % (8 * (b.length : Int)) = (q : Int) := by rw [hq]; simp
      have hd0 : (1 : Int) ≤ (b.length : Int) := by omega
      have hd1 : (b.length : Int) ≤ 300 := by omega
      have ha0 : (0 : Int) ≤ (a : Int) := by omega
      have c0 := fun (W : World) (h : Rd W W.heap.size A (bvs b)) => refTurned_any A b.length c b q p W h rfl (by omega) (by omega) (by omega)
      have C0 := Lib.hid c0
      have HZ := Lib.hid hz
      clear hq c0 hz
      go_enter Try.func6, Try.ntmps6
      go_wp2_with fail
      refine (crcMake_any _).mono ?_
      rintro e w1 ⟨g, rfl, hg, ht, hb1⟩
      have hr1 := (hr.below hb1).more hb1.size
      clear hr
      go_wp2_with fail
      clear hqm
      refine (C0.out _ hr1).mono ?_
      rintro e w2 ⟨v, rfl, hown, hb12⟩
      obtain ⟨A2, c2, rfl, hnc2, -, -⟩ := own_form hown
      have hrt := Rd.of_own hown
      have ht2 := ht.grow hb12
      have hg2 := ht2.lt
      have hr2 := (hr1.below hb12).more hb12.size
      have hb2 := hb1.trans (hb12.mono hb1.size)
      have htl := turnB_len b q p 32
      have htold := turn_told b q p
      obtain ⟨T, hT⟩ : ∃ T, T = turnB b q p 32 := ⟨_, rfl⟩
      rw [← hT] at hrt htold htl
      have c1 := fun (A : Option Addr) (c : Nat) (W : World) (ht : IsTab W g) (hr : Rd W W.heap.size A (bvs b)) => crcOf_grow g A b.length c b W ht hr rfl (by omega)
      have c2' := fun (A : Option Addr) (c : Nat) (W : World) (ht : IsTab W g) (hr : Rd W W.heap.size A (bvs T)) => crcOf_grow g A b.length c T W ht hr htl (by omega)
      obtain ⟨x, hx⟩ : ∃ x, x = crcOf b := ⟨_, rfl⟩
      obtain ⟨y, hy⟩ : ∃ y, y = crcOf T := ⟨_, rfl⟩
      rw [← hx] at c1 htold
      rw [← hy] at c2' htold
      have HTL := Lib.hid htl
      clear hT hown hr1 ht hb12 hb1 htl
      by_cases hbT : b = T
      · subst hbT
        have hxy : x = y := by rw [hx, hy]
        subst hxy
        have C1 := Lib.hid c1
        have C2 := Lib.hid c2'
        clear hx hy c1 c2' htold
        go_wp2
        refine wp_region_grow [⟨33, [], .is (.pointer (some ⟨g, 0, none⟩))⟩,
          ⟨34, [], .is (.slice A b.length c)⟩,
          ⟨35, [0, 1], .is (.int .u32 (x.toNat : Int))⟩,
          ⟨36, [], .is (.pointer (some ⟨g, 0, none⟩))⟩,
          ⟨37, [], .is (.slice A2 b.length c2)⟩,
          ⟨38, [3, 4], .is (.int .u32 (x.toNat : Int))⟩,
          ⟨39, [2, 5], .is (.bool true)⟩,
          ⟨40, [], .bytes b⟩,
          ⟨41, [7], .is (.string ⟨b.toArray⟩)⟩,
          ⟨42, [], .bytes b⟩,
          ⟨43, [9], .is (.string ⟨b.toArray⟩)⟩,
          ⟨44, [8, 10], .is (.bool true)⟩,
          ⟨45, [6, 11], .is (.bool true)⟩,
          ⟨46, [12], .is (.bool true)⟩,
          ⟨47, [13], .is (.bool true)⟩,
          ⟨48, [13, 14], .is (.bool true)⟩,
          ⟨6, [15], .is (.bool true)⟩]
          [(7, .pointer (some ⟨g, 0, none⟩)), (0, .slice A b.length c), (8, .slice A2 b.length c2)] (by kernel_rfl) (by kernel_rfl) (by kernel_rfl) (by kernel_rfl) (by kernel_rfl) ⟨rfl, rfl, rfl, trivial⟩ ?_ ?_
        · repeat' (first | exact OblGAll.nil | refine OblGAll.cons ?_ ?_)
          all_goals (intro ev yi W hB _ hf ho hn; simp only [OutsSay, NeedSay, rowAt, Fact.says, and_true] at ho hn)
          all_goals (try ((simp [OpSays, execOp, Region.wanted, Fact.says, boolOf, go_sem, ho, hn, Below.refl]; done)))
          · rw [if_pos (by simp [Region.wanted])]
            exact says_call Try.call13 (vs := #[.pointer (some ⟨g, 0, none⟩), .slice A b.length c]) rfl hf (by simp [hn]) ((C1.out A c W (ht2.below hB hg2) ((hr2.below hB).more hB.size)).mono fun _ _ h => ⟨_, h.1, rfl, h.2⟩)
          · rw [if_pos (by simp [Region.wanted])]
            exact says_call Try.call13 (vs := #[.pointer (some ⟨g, 0, none⟩), .slice A2 b.length c2]) rfl hf (by simp [hn]) ((C2.out A2 c2 W (ht2.below hB hg2) ((hrt.below hB).more hB.size)).mono fun _ _ h => ⟨_, h.1, rfl, h.2⟩)
          · rw [if_pos (by simp [Region.wanted])]
            simp [OpSays, execOp, go_sem, ho]
            exact ⟨⟨A, c, rfl, hnc, (hr2.below hB).more hB.size⟩, Below.refl _ _⟩
          · rw [if_pos (by simp [Region.wanted])]
            exact says_str rfl Try.underlying23 Try.underlying5 Try.underlying9 hn.1 ⟨rfl, Below.refl _ _⟩
          · rw [if_pos (by simp [Region.wanted])]
            simp [OpSays, execOp, go_sem, ho]
            exact ⟨⟨A2, c2, rfl, hnc2, (hrt.below hB).more hB.size⟩, Below.refl _ _⟩
          · rw [if_pos (by simp [Region.wanted])]
            exact says_str rfl Try.underlying23 Try.underlying5 Try.underlying9 hn.1 ⟨rfl, Below.refl _ _⟩
          · rw [if_pos (by simp [Region.wanted, hn, boolOf])]
            exact says_call Try.call11 (vs := #[]) rfl hf (by simp) ((crcKnown_any W).mono fun _ _ h => ⟨_, h.1, rfl, h.2⟩)
        · intro X w4 hb4 hx
          have h16 : X 16 = .bool true := hx 16 (by decide)
          clear hx
          have H16 := Lib.hid h16
          have hb5 := hb2.trans (hb4.mono hb2.size)
          clear h16 hb4 hb2
          simp only [layAll, List.setIfInBounds_toArray, List.set_cons_succ, List.set_cons_zero]
          go_wp2
          go_ret
          exact ⟨congrArg Ending.returned H16.out, hb5⟩

      · have hxy : ((x.toNat : Int) == (y.toNat : Int)) = false := by
          rw [beq_eq_false_iff_ne]
          intro e
          exact hbT (htold (BitVec.eq_of_toNat_eq (by omega)))
        have C1 := Lib.hid c1
        have C2 := Lib.hid c2'
        have HXY := Lib.hid hxy
        have HBT := Lib.hid hbT
        clear hx hy c1 c2' htold hbT hxy
        go_wp2
        refine wp_region_grow [⟨33, [], .is (.pointer (some ⟨g, 0, none⟩))⟩,
          ⟨34, [], .is (.slice A b.length c)⟩,
          ⟨35, [0, 1], .is (.int .u32 (x.toNat : Int))⟩,
          ⟨36, [], .is (.pointer (some ⟨g, 0, none⟩))⟩,
          ⟨37, [], .is (.slice A2 b.length c2)⟩,
          ⟨38, [3, 4], .is (.int .u32 (y.toNat : Int))⟩,
          ⟨39, [2, 5], .is (.bool false)⟩,
          ⟨40, [], .bytes b⟩,
          ⟨41, [7], .is (.string ⟨b.toArray⟩)⟩,
          ⟨42, [], .bytes T⟩,
          ⟨43, [9], .is (.string ⟨T.toArray⟩)⟩,
          ⟨44, [8, 10], .is (.bool false)⟩,
          ⟨45, [6, 11], .is (.bool true)⟩,
          ⟨46, [12], .is (.bool true)⟩,
          ⟨47, [13], .is (.bool true)⟩,
          ⟨48, [13, 14], .is (.bool true)⟩,
          ⟨6, [15], .is (.bool true)⟩]
          [(7, .pointer (some ⟨g, 0, none⟩)), (0, .slice A b.length c), (8, .slice A2 b.length c2)] (by kernel_rfl) (by kernel_rfl) (by kernel_rfl) (by kernel_rfl) (by kernel_rfl) ⟨rfl, rfl, rfl, trivial⟩ ?_ ?_
        · repeat' (first | exact OblGAll.nil | refine OblGAll.cons ?_ ?_)
          all_goals (intro ev yi W hB _ hf ho hn; simp only [OutsSay, NeedSay, rowAt, Fact.says, and_true] at ho hn)
          all_goals (try ((simp [OpSays, execOp, Region.wanted, Fact.says, boolOf, go_sem, ho, hn, HXY.out, HBT.out, Below.refl]; done)))
          · rw [if_pos (by simp [Region.wanted])]
            exact says_call Try.call13 (vs := #[.pointer (some ⟨g, 0, none⟩), .slice A b.length c]) rfl hf (by simp [hn]) ((C1.out A c W (ht2.below hB hg2) ((hr2.below hB).more hB.size)).mono fun _ _ h => ⟨_, h.1, rfl, h.2⟩)
          · rw [if_pos (by simp [Region.wanted])]
            exact says_call Try.call13 (vs := #[.pointer (some ⟨g, 0, none⟩), .slice A2 b.length c2]) rfl hf (by simp [hn]) ((C2.out A2 c2 W (ht2.below hB hg2) ((hrt.below hB).more hB.size)).mono fun _ _ h => ⟨_, h.1, rfl, h.2⟩)
          · rw [if_pos (by simp [Region.wanted])]
            simp [OpSays, execOp, go_sem, ho]
            exact ⟨⟨A, c, rfl, hnc, (hr2.below hB).more hB.size⟩, Below.refl _ _⟩
          · rw [if_pos (by simp [Region.wanted])]
            exact says_str rfl Try.underlying23 Try.underlying5 Try.underlying9 hn.1 ⟨rfl, Below.refl _ _⟩
          · rw [if_pos (by simp [Region.wanted])]
            simp [OpSays, execOp, go_sem, ho]
            exact ⟨⟨A2, c2, by rw [HTL.out], by rw [HTL.out]; exact hnc2, (hrt.below hB).more hB.size⟩, Below.refl _ _⟩
          · rw [if_pos (by simp [Region.wanted])]
            exact says_str rfl Try.underlying23 Try.underlying5 Try.underlying9 hn.1 ⟨rfl, Below.refl _ _⟩
          · rw [if_pos (by simp [Region.wanted, hn, boolOf])]
            exact says_call Try.call11 (vs := #[]) rfl hf (by simp) ((crcKnown_any W).mono fun _ _ h => ⟨_, h.1, rfl, h.2⟩)
        · intro X w4 hb4 hx
          have h16 : X 16 = .bool true := hx 16 (by decide)
          clear hx
          have H16 := Lib.hid h16
          have hb5 := hb2.trans (hb4.mono hb2.size)
          clear h16 hb4 hb2
          simp only [layAll, List.setIfInBounds_toArray, List.set_cons_succ, List.set_cons_zero]
          go_wp2
          go_ret
          exact ⟨congrArg Ending.returned H16.out, hb5⟩

end Go.Proofs.Ytfflecnameiceaa
