/- The fixed calls of layer 1's laws. -/
import Derived.Test.YtgchomeipmjifaaBitD
import Derived.Test.YtgchomeipmjifaaRegion2
import Derived.Deep.RegionWith
namespace Go.Proofs.Ytgchomeipmjifaa
open Go.RowKit

/-- What answers true, and turns nothing that was there. -/
def YesB (w : World) (e : Ending) (w' : World) : Prop := e = .returned (.bool true) ∧ Below w.heap.size w w'
theorem NewBy.says {w : World} {l : List UInt8} {e : Ending} {w' : World} (h : NewBy w l e w') : ∃ v, e = .returned v ∧ (Fact.bytes l).says v w' ∧ Below w.heap.size w w' := by
  obtain ⟨v, he, hown, hb⟩ := h
  exact ⟨v, he, IsBytes.of_own hown, hb⟩
theorem WrAt.only {B B' g : Nat} {ts : List TypeId} {l : List Bool} {w w' : World} (h : WrAt w B' g l) (ho : OnlyT B ts w w') (h1 : 27 ∉ ts) (h2 : 5 ∉ ts) : WrAt w' B' g l := by
  obtain ⟨v, bs, hb, hg, hown, hp⟩ := h
  exact ⟨v, bs, hb.only ho h1, hg, own_only hown ho h2, hp⟩
theorem wrAt_new (w : World) (B : Nat) (h : B ≤ w.heap.size) : WrAt (w.alloc (.cells #[.slice none 0 0, .int .i64 0] 27)) B w.heap.size [] :=
  ⟨.slice none 0 0, [], heap_alloc_new w _, h, World.ownsRow_nil _ _ _ _, Packs.nil⟩

/-- the bits of the fixed calls -/
def l7 : List Bool := [true, false, true, true, true, true, false]
theorem packs61 {bs : List UInt8} (h : Packs bs l7) : bs = [61] := by
  refine h.unique ⟨by decide, fun i => ?_⟩
  rcases Nat.lt_or_ge i 8 with g | g
  · have : ∀ j : Fin 8, bitAt [61] j.val = l7.getD j.val false := by decide
    exact this ⟨i, g⟩
  · have e1 : bitAt [61] i = false := by
      simp only [bitAt, List.getD_eq_getElem?_getD]
      rw [List.getElem?_eq_none (by simp; omega)]
      simp
    rw [e1, List.getD_eq_getElem?_getD, List.getElem?_eq_none (by simp [l7]; omega)]
    rfl

set_option maxHeartbeats 2000000 in
set_option maxRecDepth 100000 in
theorem bitKnown_any (w : World) : Calls Try.prog 11 #[] w (YesB w) := by
  have c1 := fun (W : World) (h : WrAt W w.heap.size w.heap.size []) => wPut_any w.heap.size w.heap.size [] 5 3 W h (by decide) (by decide) (by decide)
  have c2 := fun (W : World) (h : WrAt W w.heap.size w.heap.size [true, false, true]) => wPut_any w.heap.size w.heap.size [true, false, true] 1 1 W h (by decide) (by decide) (by decide)
  have c3 := fun (W : World) (h : WrAt W w.heap.size w.heap.size [true, false, true, true]) => wOnes_any w.heap.size w.heap.size [true, false, true, true] 2 9 W h (by decide) (by decide) (by decide)
  rw [show [] ++ bitsOf 5 3 = [true, false, true] by decide] at c1
  rw [show [true, false, true] ++ bitsOf 1 1 = [true, false, true, true] by decide] at c2
  rw [show [true, false, true, true] ++ onesOf 2 9 = l7 by decide] at c3
  have C1 := Lib.hid c1
  have C2 := Lib.hid c2
  have C3 := Lib.hid c3
  have c4 := fun (A : Option Addr) (c : Nat) (W : World) (h : Rd W W.heap.size A (bvs [13])) (hA : A ≠ none) => read_any A 1 c [13] W h rfl (by decide) (fun e => absurd e hA)
  rw [show allBits [13] = [true, false, true, true, false, false, false, false] by decide] at c4
  have C4 := Lib.hid c4
  have c5 := fun (g : Nat) (W : World) (h : RdrIs W g [true, false, true, true, false, false, false, false] 0) => rGet_ok (w := W) (g := g) 3 h (by decide) (by decide)
  rw [show valOf (List.take 3 [true, false, true, true, false, false, false, false]) = 5 by decide] at c5
  have C5 := Lib.hid c5
  have c6 := fun (g : Nat) (W : World) (h : RdrIs W g [true, false, false, false, false] 0) => rOnes_stop (w := W) (g := g) 9 1 [false, false, false] h (by decide) (by decide) (by decide)
  have C6 := Lib.hid c6
  clear c1 c2 c3 c4 c5 c6
  go_enter Try.func11, Try.ntmps11
  go_wp2_with (first
    | (go_at_call_of 12 (Value.int IntKind.u64 5); go_must (refine (C1.out _ (wrAt_new w _ (Nat.le_refl _))).mono ?_; rintro e w1 ⟨rfl, hat1, ho1⟩; have HAT1 := Lib.hid hat1; have HO1 := Lib.hid ho1; clear hat1 ho1))
    | (go_at_call_of 12 (Value.int IntKind.u64 1); go_must (refine (C2.out _ HAT1.out).mono ?_; rintro e w2 ⟨rfl, hat2, ho2⟩; have HAT2 := Lib.hid hat2; have HO2 := Lib.hid (HO1.out.trans ho2); clear hat2 ho2))
    | (go_at_call 14; go_must (refine (C3.out _ HAT2.out).mono ?_; rintro e w3 ⟨rfl, hat3, ho3⟩; have HAT3 := Lib.hid hat3; have HO3 := Lib.hid (HO2.out.trans ho3); clear hat3 ho3))
    | (go_at_call 20; go_must (refine (C4.out _ _ _ (Rd.new w3 #[.int .u8 13] 5) (by simp)).mono ?_; rintro e w4 ⟨gr, rfl, hgr, hrd4, hb4⟩; have HAT4 := Lib.hid ((HAT3.out.only (OnlyT.of_below (B := 0) (ts := []) (((Below.refl _ _).alloc (Nat.le_refl _) _).trans (hb4.mono (by simp)))) (by simp) (by simp))); have HB4 := Lib.hid ((((Below.refl w3.heap.size w3).alloc (Nat.le_refl _) (.cells #[.int .u8 13] 5))).trans (hb4.mono (by simp))); have HRD4 := Lib.hid hrd4; clear hrd4 hb4))
    | (go_at_call 22; go_must (refine (C5.out gr _ HRD4.out).mono ?_; rintro e w5 ⟨rfl, hrd5, ho5⟩; have HRD5 := Lib.hid hrd5; have HO5 := Lib.hid ho5; have HAT5 := Lib.hid (HAT4.out.only ho5 (by decide) (by decide)); clear hrd5 ho5))
    | (go_at_call 24; go_must (refine (C6.out gr _ HRD5.out).mono ?_; rintro e w6 ⟨rfl, hrd6, ho6⟩; have HRD6 := Lib.hid hrd6; have HO6 := Lib.hid (HO5.out.trans ho6); have HAT6 := Lib.hid (HAT5.out.only ho6 (by decide) (by decide)); clear hrd6 ho6)))
  obtain ⟨gw, hgw⟩ : ∃ gw, gw = w.heap.size := ⟨_, rfl⟩
  rw [← hgw] at HAT6 ⊢
  have HGW := Lib.hid hgw
  clear hgw
  refine wp_region_grow [⟨21, [], .is (.int .i64 0)⟩,
      ⟨22, [0], .is (.bool true)⟩,
      ⟨23, [1], .is (.bool true)⟩,
      ⟨24, [2], .is (.int .i64 0)⟩,
      ⟨25, [3, 2], .is (.bool true)⟩,
      ⟨26, [2, 4], .is (.bool true)⟩,
      ⟨27, [5], .is (.bool true)⟩,
      ⟨28, [6], .is (.pointer (some ⟨gw, 0, none⟩))⟩,
      ⟨29, [7, 6], .bytes [61]⟩,
      ⟨30, [8, 6], .is (.string ⟨#[61]⟩)⟩,
      ⟨31, [6], .bytes [61]⟩,
      ⟨32, [10, 6], .is (.string ⟨#[61]⟩)⟩,
      ⟨33, [9, 11, 6], .is (.bool true)⟩,
      ⟨34, [6, 12], .is (.bool true)⟩,
      ⟨35, [13], .is (.bool true)⟩,
      ⟨36, [14], .is (.pointer (some ⟨gw, 0, none⟩))⟩,
      ⟨37, [15, 14], .is (.int .i64 7)⟩,
      ⟨38, [16, 14], .is (.bool true)⟩,
      ⟨39, [14, 17], .is (.bool true)⟩,
      ⟨40, [18], .is (.bool true)⟩,
      ⟨41, [19], .is (.int .u64 5)⟩,
      ⟨42, [20, 19], .is (.bool true)⟩,
      ⟨43, [19, 21], .is (.bool true)⟩,
      ⟨44, [22], .is (.bool true)⟩,
      ⟨45, [23], .is (.int .i64 1)⟩,
      ⟨46, [24, 23], .is (.bool true)⟩,
      ⟨47, [23, 25], .is (.bool true)⟩,
      ⟨48, [26], .is (.bool true)⟩,
      ⟨49, [27], .is (.pointer (some ⟨gr, 0, none⟩))⟩,
      ⟨50, [28, 27], .is (.int .i64 3)⟩,
      ⟨51, [29, 27], .is (.bool true)⟩,
      ⟨52, [27, 30], .is (.bool true)⟩,
      ⟨53, [31], .is (.bool true)⟩,
      ⟨54, [32], .is (.pointer (some ⟨gr, 0, none⟩))⟩,
      ⟨55, [33, 32], .is (.int .i64 0)⟩,
      ⟨56, [34, 32], .is (.bool true)⟩,
      ⟨57, [32, 35], .is (.bool true)⟩,
      ⟨0, [36], .is (.bool true)⟩]
      [(2, .int .i64 0), (3, .int .i64 0), (1, .pointer (some ⟨gw, 0, none⟩)), (5, .int .u64 5), (6, .int .i64 1), (4, .pointer (some ⟨gr, 0, none⟩))] (by kernel_rfl) (by kernel_rfl) (by kernel_rfl) (by kernel_rfl) (by kernel_rfl) ⟨rfl, rfl, rfl, rfl, rfl, rfl, trivial⟩ ?_ ?_
  · have WR : ∀ w1 : World, Below w6.heap.size w6 w1 → WrAt w1 gw gw l7 := fun w1 hb => HAT6.out.only (OnlyT.of_below (B := 0) (ts := []) hb) (by simp) (by simp)
    have RD : ∀ w1 : World, Below w6.heap.size w6 w1 → RdrIs w1 gr [false, false, false] 0 := fun w1 hb => HRD6.out.only (OnlyT.of_below (B := 0) (ts := []) hb) (by simp) (by simp)
    repeat' (first | exact OblGAll.nil | refine OblGAll.cons ?_ ?_)
    all_goals (intro ev yi w1 hB hc hf ho hn; simp only [OutsSay, NeedSay, rowAt, Fact.says, and_true] at ho hn)
    all_goals (try ((simp [OpSays, execOp, Region.wanted, Fact.says, boolOf, go_sem, ho, hn, hc, Below.refl]; done)))
    · rw [if_pos (by simp [Region.wanted, hn, boolOf])]
      exact says_call Try.call18 rfl hf (by simp only [List.map_toArray, List.map_cons, List.map_nil, hn]) ((wBytes_any gw gw l7 w1 (WR w1 hB) (by decide)).mono fun _ _ ⟨_, hp, h⟩ => by rw [packs61 hp] at h; exact h.says)
    · rw [if_pos (by simp [Region.wanted, hn, boolOf])]
      exact says_str rfl Try.underlying25 Try.underlying5 Try.underlying9 hn.1 ⟨rfl, Below.refl _ _⟩
    · rw [if_pos (by simp [Region.wanted, hn, boolOf])]
      simp [OpSays, execOp, go_sem, hc]
      exact ⟨⟨_, 1, rfl, by decide, Rd.new w1 _ _⟩, (Below.refl _ _).alloc (Nat.le_refl _) _⟩
    · rw [if_pos (by simp [Region.wanted, hn, boolOf])]
      exact says_str rfl Try.underlying25 Try.underlying5 Try.underlying9 hn.1 ⟨rfl, Below.refl _ _⟩
    · rw [if_pos (by simp [Region.wanted, hn, boolOf])]
      exact says_call Try.call16 rfl hf (by simp only [List.map_toArray, List.map_cons, List.map_nil, hn]) ((wLen_any gw gw l7 w1 (WR w1 hB)).mono fun _ _ h => ⟨_, h.1, rfl, h.2 ▸ Below.refl _ _⟩)
    · rw [if_pos (by simp [Region.wanted, hn, boolOf])]
      exact says_call Try.call27 rfl hf (by simp only [List.map_toArray, List.map_cons, List.map_nil, hn]) ((rLeft_is (RD w1 hB)).mono fun _ _ h => ⟨_, h.1, rfl, h.2 ▸ (Below.refl _ _).drew⟩)
    · rw [if_pos (by simp [Region.wanted, hn, boolOf])]
      exact says_call Try.call29 rfl hf (by simp only [List.map_toArray, List.map_cons, List.map_nil, hn]) ((rDone_ok 3 (RD w1 hB) (by decide) rfl).mono fun _ _ h => ⟨_, h.1, rfl, h.2 ▸ (Below.refl _ _).drew⟩)
  · intro x w7 hb7 hx
    have h37 : x 37 = .bool true := hx 37 (by decide)
    clear hx
    have H37 := Lib.hid h37
    clear h37
    simp only [layAll, List.setIfInBounds_toArray, List.set_cons_succ, List.set_cons_zero]
    go_wp2
    go_ret
    refine ⟨congrArg Ending.returned H37.out, ?_⟩
    have b0 : Below w.heap.size w (w.alloc (.cells #[.slice none 0 0, .int .i64 0] 27)) := (Below.refl _ _).alloc (Nat.le_refl _) _
    have b3 := HO3.out.below (by simp)
    have s3 := (b0.trans b3).size
    have s4 := HB4.out.size
    have hgr' : w3.heap.size + 1 ≤ gr := by simpa using hgr
    have hgl : gr < w4.heap.size := by obtain ⟨_, _, _, _, hb, _⟩ := HRD4.out; exact hb.lt
    have b6 := HO6.out.below (by omega)
    have s6 := HO6.out.size
    exact (((b0.trans b3).trans (HB4.out.mono s3)).trans (b6.mono (by omega))).trans (hb7.mono (by omega))
end Go.Proofs.Ytgchomeipmjifaa
