/- Law CrcPieces. -/
import Derived.Test.YtfflecnameiceaaCrcKnown
import Derived.Test.YtfflecnameiceaaRowsArg
import Derived.Test.YtfflecnameiceaaRegion3
import Derived.Deep.DeepMust
namespace Go.Proofs.Ytfflecnameiceaa
open Go.RowKit

theorem info_u8c : (Try.prog.info? 5).map (fun i => (i.zero, i.size, i.bytes)) = some (some (.int .u8 0), 1, 1) := by kernel_rfl

/-- The bytes of the first k pieces, behind one another. -/
def cat (rs : List BRow) (k : Nat) : List UInt8 := ((rs.take k).map BRow.l).flatten
theorem cat_succ (rs : List BRow) (k : Nat) (h : k < rs.length) : cat rs (k + 1) = cat rs k ++ rs[k].l := by
  unfold cat
  rw [List.take_succ_eq_append_getElem h, List.map_append, List.flatten_append]
  simp
theorem cat_zero (rs : List BRow) : cat rs 0 = [] := by simp [cat]
theorem crcOf_append (l m : List UInt8) : crcOf (l ++ m) = more (crcOf l) m := more_append _ _ _

/-- What holds at the head of a round: of the pieces ahead both sums are that of all of them, which lie in a row of the call's own. -/
def PcRel (w w1 : World) (rs : List BRow) (v on jo i : Value) (wr : World) : Prop :=
  ∃ k : Nat, k ≤ rs.length ∧ i = .int .i64 k ∧ on = .int .u32 ((crcOf (cat rs k)).toNat : Int) ∧ jo = .int .u32 ((crcOf (cat rs k)).toNat : Int) ∧ (cat rs k).length ≤ 100 * k ∧
    wr.ownsRow w1.heap.size 5 1 v (cat rs k).length (bvs (cat rs k)) ∧ Below w.heap.size w wr ∧ Below w1.heap.size w1 wr

set_option maxHeartbeats 2000000 in
set_option maxRecDepth 100000 in
theorem crcPieces_law (A0 : Option Addr) (N C : Nat) (rs : List BRow) (w : World) (hN : rs.length = N) (hr : RdRows w w.heap.size A0 rs) (hN1 : N ≤ 9223372036854775807) :
    Calls Try.prog 4 #[.slice A0 N C] w (Yes w) := by
  obtain ⟨i0, hi, hz0, hz1, hz2⟩ := info_parts info_u8c
  subst hN
  by_cases h20 : (20 : Int) < (rs.length : Int)
  · go_enter Try.func4, Try.ntmps4
    go_wp2_with fail
    refine (crcMake_any _).mono ?_
    rintro e w1 ⟨g, rfl, hg, ht, hb1⟩
    go_wp2_with fail
    refine (crcKnown_any _).mono ?_
    rintro e w2 ⟨rfl, hb2⟩
    have hbb := hb1.trans (hb2.mono hb1.size)
    clear hb1 hb2
    go_wp2
    go_ret
    exact ⟨rfl, hbb⟩
  · go_enter Try.func4, Try.ntmps4
    go_wp2_with fail
    refine (crcMake_any _).mono ?_
    rintro e w1 ⟨g, rfl, hg, ht, hb1⟩
    have hg1 := ht.lt
    have hs1 := hb1.size
    have hr1 := (hr.below hb1).more hs1
    have HR1 := Lib.hid hr1
    have HT := Lib.hid ht
    clear hr hr1 ht
    go_wp2
    go_loopw [4, 5, 6, 7] (PcRel w w1 rs) (fun _ _ _ i _ => rs.length - (intOf i).toNat)
    case atStart => exact ⟨0, Nat.zero_le _, rfl, by rw [cat_zero]; rfl, by rw [cat_zero]; rfl, by rw [cat_zero]; exact Nat.zero_le _, by rw [cat_zero]; exact World.ownsRow_nil _ _ _ _, hb1, Below.refl _ _⟩
    case round =>
      obtain ⟨k, hk, rfl, rfl, rfl, hcl, hown, hb, hbw⟩ := hrel
      have hsw := hbw.size
      by_cases hlt : k < rs.length
      · obtain ⟨r, hrr⟩ : ∃ r, r = rs[k] := ⟨_, rfl⟩
        have hok := HR1.out.2 r (by rw [hrr]; exact List.getElem_mem _)
        obtain ⟨ab, ao, rfl, hab, hcell1⟩ := HR1.out.1 k r.val (by rw [List.getElem?_map, List.getElem?_eq_getElem hlt, hrr]; rfl)
        obtain ⟨A, n, c, l⟩ := r
        obtain ⟨hl, hnc, hcm, hrd⟩ := hok
        simp only [BRow.val] at hcell1 hl hnc hcm hrd
        have hcell := (hbw.cell (p := ⟨ab, ao + k, none⟩) hab).trans hcell1
        have HCELL1 := Lib.hid hcell1
        clear hcell1
        by_cases h100 : (100 : Int) < (n : Int)
        · clear hrr
          go_wp2_with fail
          refine (crcKnown_any _).mono ?_
          rintro e w2 ⟨rfl, hb2⟩
          have hbb := hb.trans (hb2.mono hb.size)
          clear hb hb2
          go_wp2
          go_ret
          exact ⟨rfl, hbb⟩
        · have hcat := cat_succ rs k hlt
          rw [← hrr] at hcat
          simp only at hcat
          obtain ⟨L, hL⟩ : ∃ L, L = cat rs k := ⟨_, rfl⟩
          rw [← hL] at hcat hcl hown
          have hmo := crcOf_append L l
          rw [← hcat] at hmo
          have hjo := more_join (crcOf L) l
          rw [← hmo, hl] at hjo
          rw [← hL]
          obtain ⟨x, hx⟩ : ∃ x, x = crcOf L := ⟨_, rfl⟩
          obtain ⟨y, hy⟩ : ∃ y, y = crcOf l := ⟨_, rfl⟩
          obtain ⟨z, hz⟩ : ∃ z, z = crcOf (cat rs (k + 1)) := ⟨_, rfl⟩
          rw [← hx, ← hz] at hmo
          rw [← hx, ← hy, ← hz] at hjo
          rw [← hx]
          have hnews : (bvs l).length = n * 1 := by rw [bvs_length, hl, Nat.mul_one]
          have c1 := fun (W : World) (ht : IsTab W g) (hr : Rd W W.heap.size A (bvs l)) => crcMore_any g x A n c l W ht hr hl (by omega)
          rw [← hmo] at c1
          have c2 := fun (W : World) (ht : IsTab W g) (hr : Rd W W.heap.size A (bvs l)) => crcOf_any g A n c l W ht hr hl (by omega)
          rw [← hy] at c2
          have c3 := fun (W : World) => crcJoin_any x y (n : Int) W (by omega) (by omega)
          rw [Int.toNat_natCast, ← hjo] at c3
          have C1 := Lib.hid c1
          have C2 := Lib.hid c2
          have C3 := Lib.hid c3
          have HNEWS := Lib.hid hnews
          have HCAT := Lib.hid hcat
          have HZ := Lib.hid hz
          have HL := Lib.hid hl
          clear c1 c2 c3 hnews hx hy hz hmo hjo hcat hL hl hrr
          have hll : l.length ≤ 100 := by rw [HL.out]; omega
          go_wp2_with (first
            | ((with_reducible show wpList _ _ _ (({ dst := some 35, op := _, type := _, pos := _, after := _, guard := _ } : Oper) :: _) _ _); go_must (refine wpList_app rfl (.tmp 30) (.tmp 34) 23 rfl w1.heap.size 5 i0 (.int .u8 0) 1 1 Try.underlying23 hi hz0 hz1 hz2 rfl (by decide) _ L.length _ rfl hown w1.heap.size A n c (bvs l) rfl (hrd.below hbw) HNEWS.out (bvs_one _) (by simp only [maxLen]; omega) (by omega) hsw ?_; intro v2 w2 hown2 hg2; have hbw2 : Below w1.heap.size w1 w2 := hbw.grown hg2 hsw (own_block hown); have hb2 : Below w.heap.size w w2 := hb.grown hg2 hb.size (own_block (own_more hown hs1)); have hcell2 := (hbw2.cell (p := ⟨ab, ao + k, none⟩) hab).trans HCELL1.out; clear hg2 hown hb hbw hcell))
            | (go_at_call 15; go_must (refine (C1.out _ (HT.out.below hbw2 hg1) ((hrd.below hbw2).more hbw2.size)).mono ?_; rintro e w' ⟨rfl, rfl⟩)))
          have hnc' : n ≤ c := hnc
          refine wp_region_late [⟨43, [], .is (.int .u32 (x.toNat : Int))⟩,
            ⟨44, [], .is (.pointer (some ⟨g, 0, none⟩))⟩,
            ⟨45, [], .is (.slice (some ⟨ab, ao, none⟩) rs.length C)⟩,
            ⟨46, [], .is (.int .i64 k)⟩,
            ⟨47, [2, 3], .is (.pointer (some ⟨ab, ao + k, none⟩))⟩,
            ⟨48, [4], .is (.slice A n c)⟩,
            ⟨49, [1, 5], .is (.int .u32 (y.toNat : Int))⟩,
            ⟨50, [], .is (.slice (some ⟨ab, ao, none⟩) rs.length C)⟩,
            ⟨51, [], .is (.int .i64 k)⟩,
            ⟨52, [7, 8], .is (.pointer (some ⟨ab, ao + k, none⟩))⟩,
            ⟨53, [9], .is (.slice A n c)⟩,
            ⟨54, [10], .is (.int .i64 n)⟩,
            ⟨55, [0, 6, 11], .is (.int .u32 (z.toNat : Int))⟩,
            ⟨6, [12], .is (.int .u32 (z.toNat : Int))⟩]
            [(3, .pointer (some ⟨g, 0, none⟩)), (0, .slice (some ⟨ab, ao, none⟩) rs.length C), (7, .int .i64 k)] [(43, 6, .int .u32 (x.toNat : Int))] (by kernel_rfl) (by kernel_rfl) (by kernel_rfl) (by kernel_rfl) (by kernel_rfl) (by kernel_rfl) ⟨rfl, rfl, rfl, trivial⟩ ⟨rfl, trivial⟩ ?_ ?_
          · repeat' (first | exact OblLAll.nil | refine OblLAll.cons ?_ ?_)
            all_goals (intro ev yi W hB _ hf ho hl hn; simp only [OutsSay, LateSay, NeedSay, rowAt, Fact.says, and_true, Nat.reduceEqDiff, true_implies] at ho hl hn)
            all_goals (have hcW := (hB.cell (p := ⟨ab, ao + k, none⟩) (Nat.lt_of_lt_of_le hab hbw2.size)).trans hcell2)
            all_goals (rw [if_pos (by simp [Region.wanted])])
            all_goals (try ((simp [OpSays, execOp, Fact.says, go_sem, ho, hl, hn, hcW, hlt, Below.refl]; done)))
            · exact says_call Try.call13 (vs := #[.pointer (some ⟨g, 0, none⟩), .slice A n c]) rfl hf (by simp [hn]) ((C2.out W ((HT.out.below hbw2 hg1).below hB (Nat.lt_of_lt_of_le hg1 hbw2.size)) ((((hrd.below hbw2).more hbw2.size).below hB).more hB.size)).mono fun _ _ h => ⟨_, h.1, rfl, h.2 ▸ Below.refl _ _⟩)
            · exact says_call Try.call17 (vs := #[.int .u32 (x.toNat : Int), .int .u32 (y.toNat : Int), .int .i64 (n : Int)]) rfl hf (by simp [hn]) ((C3.out W).mono fun _ _ h => ⟨_, h.1, rfl, h.2⟩)
          · intro X w4 hb4 hx
            have h13 : X 13 = .int .u32 (z.toNat : Int) := hx 13 (by decide)
            clear hx
            have H13 := Lib.hid h13
            have hown4 := own_kept hown2 hb4
            rw [← bvs_append, ← HCAT.out] at hown4
            have hlen4 : L.length + n = (cat rs (k + 1)).length := by rw [HCAT.out, List.length_append, HL.out]
            rw [hlen4] at hown4
            have hbw4 := hbw2.trans (hb4.mono hbw2.size)
            have hb5 := hb2.trans (hb4.mono hb2.size)
            have hc4 : (cat rs (k + 1)).length ≤ 100 * (k + 1) := by omega
            clear h13 hcell2 hb4 hown2 hlen4
            simp only [layAll, List.setIfInBounds_toArray, List.set_cons_succ, List.set_cons_zero]
            go_wp2
            go_roundw
            case rel => exact ⟨k + 1, by omega, by go_num, by rw [HZ.out], by rw [H13.out, HZ.out], hc4, hown4, hb5, hbw4⟩
            case measure => simp [intOf]; omega
      · obtain rfl : k = rs.length := by omega
        obtain ⟨L, hL⟩ : ∃ L, L = cat rs rs.length := ⟨_, rfl⟩
        rw [← hL] at hown hcl
        rw [← hL]
        obtain ⟨A, c, rfl, hc, -, -⟩ := own_form hown
        have hrd := Rd.of_own hown
        have c2 := crcOf_any g A L.length c L wr (HT.out.below hbw hg1) hrd rfl (by omega)
        have C2 := Lib.hid c2
        obtain ⟨x, hx⟩ : ∃ x, x = crcOf L := ⟨_, rfl⟩
        rw [← hx] at C2
        rw [← hx]
        have hbs := hb.size
        clear hL hown hrd c2 hx hbw hsw
        go_wp2_with fail
        refine C2.out.mono ?_
        rintro e w' ⟨rfl, rfl⟩
        go_wp2_with fail
        refine (crcKnown_any _).mono ?_
        rintro e w3 ⟨rfl, hb3⟩
        have hb4 := hb.trans (hb3.mono hbs)
        clear hb hb3
        go_wp2
        go_ret
        exact ⟨rfl, hb4⟩
end Go.Proofs.Ytfflecnameiceaa
