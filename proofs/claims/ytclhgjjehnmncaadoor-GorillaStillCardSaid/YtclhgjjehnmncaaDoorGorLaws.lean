/- Laws of layer 9. -/
import Derived.Test.YtclhgjjehnmncaaDoorGorAny
import Derived.Test.YtclhgjjehnmncaaDoorGorUnp
import Derived.Test.YtclhgjjehnmncaaDoorRegion2
import Derived.Test.YtclhgjjehnmncaaDoorArg2
namespace Go.Proofs.YtclhgjjehnmncaaDoor
open Go.RowKit

theorem packs_of {bs : List UInt8} {l : List Bool} {p : Nat} (h : allBits bs = l ++ List.replicate p false) (hp : p < 8) : Packs bs l := by
  have hl := congrArg List.length h
  rw [allBits_length, List.length_append, List.length_replicate] at hl
  refine ⟨by omega, fun i => ?_⟩
  rcases Nat.lt_or_ge i (8 * bs.length) with g | g
  · have h1 := allBits_get bs i g
    rw [h] at h1
    rw [List.getD_eq_getElem?_getD]
    rcases Nat.lt_or_ge i l.length with g2 | g2
    · rw [List.getElem?_append_left g2] at h1
      rw [h1]; rfl
    · rw [List.getElem?_append_right g2, List.getElem?_replicate, if_pos (by omega)] at h1
      rw [List.getElem?_eq_none g2]
      injection h1 with h1
      exact h1.symm
  · rw [List.getD_eq_getElem?_getD, List.getElem?_eq_none (by omega)]
    simp only [bitAt, List.getD_eq_getElem?_getD]
    rw [List.getElem?_eq_none (by omega)]
    simp
theorem bytes_own {w w' : World} {l : List UInt8} {e : Ending} (h : NewBy w l e w') : ∃ v, e = .returned v ∧ (Fact.bytes l).says v w' ∧ Below w.heap.size w w' := by
  obtain ⟨v, rfl, h1, h2⟩ := h
  exact ⟨v, rfl, IsBytes.of_own h1, h2⟩
/-- Pack, of words that are told of, where it is known what comes of it. -/
theorem gPack_bytes (W : Int) (ws : List Nat) (v : Value) (w : World) (h : IsCells (wvs ws) v w) (hb : ws.length ≤ 1000) (hlt64 : ∀ x ∈ ws, x < 18446744073709551616) (ht : TabA w) (Q : List UInt8) (hQ : Packs Q (packG W ws)) :
    Calls Tryd.prog 7 #[v, .int .i64 W] w fun e w'' => ∃ v, e = .returned v ∧ (Fact.bytes Q).says v w'' ∧ Below w.heap.size w w'' := by
  obtain ⟨A, c, rfl, hc, hr⟩ := h
  rw [wvs_length]
  refine (gPack_any W A ws.length c ws w hr rfl hb hlt64 ht).mono ?_
  rintro e w' ⟨bs, hp, hn⟩
  obtain rfl := hp.unique hQ
  exact bytes_own hn
theorem rPack_bytes (W : Int) (ws : List Nat) (v : Value) (w : World) (h : IsCells (wvs ws) v w) (hb : ws.length ≤ 1000) (hlt64 : ∀ x ∈ ws, x < 18446744073709551616) (Q : List UInt8) (hQ : Packs Q (packG W ws)) :
    Calls Tryd.prog 8 #[v, .int .i64 W] w fun e w'' => ∃ v, e = .returned v ∧ (Fact.bytes Q).says v w'' ∧ Below w.heap.size w w'' := by
  obtain ⟨A, c, rfl, hc, hr⟩ := h
  rw [wvs_length]
  refine (rPack_any W A ws.length c ws w hr rfl hb hlt64).mono ?_
  rintro e w' ⟨bs, hp, hn⟩
  obtain rfl := hp.unique hQ
  exact bytes_own hn
theorem k_pack : Packs [5, 0] (packG 1 [5, 5, 5]) := packs_of (p := 6) (by decide +kernel) (by decide)
theorem k_all : allBits [5, 31, 64] = packB 1 [5, 4] ++ List.replicate 1 false := by decide +kernel
theorem k_fit : fitW 1 [5, 4] = [5, 4] := by decide
theorem k_most : mostG 1 8 = 8 := by decide
theorem row_new (w : World) (l : List UInt8) (t : TypeId) : IsRow l (.slice (some ⟨w.heap.size, 0, none⟩) l.length l.length) (w.alloc (.cells (bvs l).toArray t)) :=
  ⟨_, _, rfl, Nat.le_refl _, Rd.new w (bvs l).toArray t, fun h => by cases h⟩
set_option maxHeartbeats 1000000 in
set_option maxRecDepth 100000 in
theorem gorKnown_any (w : World) (ht : TabA w) : Calls Tryd.prog 6 #[] w (Yes w) := by
  have c1 := fun (v : Value) (w : World) (h : IsCells (wvs [5, 5, 5]) v w) (ht : TabA w) => gPack_bytes 1 [5, 5, 5] v w h (by decide) (by decide) ht _ k_pack
  have c2 := fun (v : Value) (w : World) (h : IsRow [5, 31, 64] v w) => gorUnpack_right (W := 1) (.inl rfl) [5, 31, 64] v 1 [5, 4] 2 rfl w h (by decide) (by decide) (by decide) k_all
  have c3 := fun (w : World) => gMost_any 1 8 w
  rw [k_most] at c3
  have C1 := Lib.hid c1
  have C2 := Lib.hid c2
  have C3 := Lib.hid c3
  have HT := Lib.hid ht
  clear c1 c2 c3 ht
  go_enter Tryd.func6, Tryd.ntmps6
  go_wp2_with fail
  refine (C2.out _ _ (row_new w [5, 31, 64] 5)).mono ?_
  rintro e w1 ⟨v, f, rfl, hb, hf, hv⟩
  obtain rfl : f = 0 := by rw [hf]; rfl
  have HV := Lib.hid (k_fit ▸ hv (by decide))
  have HB := Lib.hid (((Below.refl w.heap.size w).alloc (Nat.le_refl _) _).trans (hb.mono (by simp)))
  have HT2 := Lib.hid (HT.out.grow HB.out)
  clear hv hb hf C2 HT
  go_wp2
  refine wp_region_grow [⟨8, [], .cells (wvs [5, 5, 5])⟩,
    ⟨9, [0], .bytes [5, 0]⟩,
    ⟨10, [1], .is (.string ⟨#[5, 0]⟩)⟩,
    ⟨11, [], .bytes [5, 0]⟩,
    ⟨12, [3], .is (.string ⟨#[5, 0]⟩)⟩,
    ⟨13, [2, 4], .is (.bool true)⟩,
    ⟨14, [5], .is (.bool true)⟩,
    ⟨15, [6], .is (.int .i64 0)⟩,
    ⟨16, [7, 6], .is (.bool true)⟩,
    ⟨17, [6, 8], .is (.bool true)⟩,
    ⟨18, [9], .is (.bool true)⟩,
    ⟨19, [10], .is (v)⟩,
    ⟨20, [10], .cells (wvs [5, 4])⟩,
    ⟨21, [11, 12, 10], .is (.bool true)⟩,
    ⟨22, [10, 13], .is (.bool true)⟩,
    ⟨23, [14], .is (.bool true)⟩,
    ⟨24, [15], .is (.int .i64 8)⟩,
    ⟨25, [16, 15], .is (.bool true)⟩,
    ⟨26, [15, 17], .is (.bool true)⟩,
    ⟨0, [18], .is (.bool true)⟩]
    [(2, .int .i64 0), (1, v)] (by kernel_rfl) (by kernel_rfl) (by kernel_rfl) (by kernel_rfl) (by kernel_rfl) ⟨rfl, rfl, trivial⟩ ?_ ?_
  · repeat' (first | exact OblGAll.nil | refine OblGAll.cons ?_ ?_)
    all_goals (intro ev yi w' hB hc hf ho hn; simp only [OutsSay, NeedSay, rowAt, Fact.says, and_true] at ho hn)
    all_goals (try ((simp [OpSays, execOp, Region.wanted, Fact.says, boolOf, go_sem, ho, hn, hc, Below.refl]; done)))
    · rw [if_pos (by simp [Region.wanted])]
      simp [OpSays, execOp, go_sem, hc]
      exact ⟨⟨_, 3, rfl, by decide, Rd.new w' _ _⟩, (Below.refl _ _).alloc (Nat.le_refl _) _⟩
    · rw [if_pos (by simp [Region.wanted])]
      exact says_call Tryd.call7 (vs := #[ev (.tmp 8), .int .i64 1]) rfl hf (by simp [hc]) (C1.out _ w' hn.1 (HT2.out.grow hB))
    · rw [if_pos (by simp [Region.wanted])]
      exact says_str rfl Tryd.underlying24 Tryd.underlying5 Tryd.underlying9 hn.1 ⟨rfl, Below.refl _ _⟩
    · rw [if_pos (by simp [Region.wanted])]
      simp [OpSays, execOp, go_sem, hc]
      exact ⟨⟨_, 2, rfl, by decide, Rd.new w' _ _⟩, (Below.refl _ _).alloc (Nat.le_refl _) _⟩
    · rw [if_pos (by simp [Region.wanted])]
      exact says_str rfl Tryd.underlying24 Tryd.underlying5 Tryd.underlying9 hn.1 ⟨rfl, Below.refl _ _⟩
    · rw [if_pos (by simp [Region.wanted, hn, boolOf])]
      simp [OpSays, execOp, go_sem, hc]
      exact ⟨⟨_, 2, rfl, by decide, Rd.new w' _ _⟩, (Below.refl _ _).alloc (Nat.le_refl _) _⟩
    · rw [if_pos (by simp [Region.wanted, hn, boolOf])]
      exact says_call Tryd.call12 (vs := #[ev (.tmp 19), ev (.tmp 20)]) rfl hf (by simp) ((refSame_yes [5, 4] (by decide) _ _ w' (by rw [hn.1]; exact HV.out.grow hB) hn.2.2.1).mono fun _ _ h => ⟨_, h.1, rfl, h.2⟩)
    · rw [if_pos (by simp [Region.wanted, hn, boolOf])]
      exact says_call Tryd.call9 (vs := #[.int .i64 1, .int .i64 8]) rfl hf (by simp [hc]) ((C3.out w').mono fun _ _ h => ⟨_, h.1, rfl, h.2 ▸ Below.refl _ _⟩)
  · intro X w4 hb4 hx
    have hlast : X 19 = .bool true := hx 19 (by decide)
    clear hx
    have HL := Lib.hid hlast
    clear hlast
    simp only [layAll, List.setIfInBounds_toArray, List.set_cons_succ, List.set_cons_zero]
    go_wp2
    go_ret
    exact ⟨congrArg Ending.returned HL.out, HB.out.trans (hb4.mono HB.out.size)⟩
theorem pack_most (W : Int) (ws : List Nat) (Q : List UInt8) (h : Packs Q (packG W ws)) (hb : ws.length ≤ 1000) : (Q.length : Int) ≤ mostG (ws.length : Int) W := by
  have hl := h.1
  cases hR : rightB W with
  | false =>
    unfold packG at hl
    rw [hR, if_neg (by decide)] at hl
    rw [mostG_not (.inl hR)]
    simp at hl
    rw [hl]
    simp
  | true =>
    obtain ⟨V, rfl, hV⟩ := isW_of hR
    rw [packG_of hV] at hl
    by_cases h0 : ws = []
    · subst h0
      rw [packB_nil] at hl
      rw [mostG_not (.inr (.inl (by simp)))]
      simp at hl
      rw [hl]
      simp
    · have hp := (packB_len V ws h0).2
      have hpos : 0 < ws.length := List.length_pos_iff.2 h0
      unfold mostG
      rw [if_pos ⟨hR, by omega, by omega⟩]
      rcases hV with rfl | rfl | rfl | rfl <;> omega
set_option maxHeartbeats 1000000 in
set_option maxRecDepth 100000 in
theorem gorPacks_core (A : Option Addr) (c : Nat) (l : List Nat) (W n : Int) (w : World) (hr : Rd w w.heap.size A (wvs l)) (hnc : l.length ≤ c) (hlt64 : ∀ x ∈ l, x < 18446744073709551616) (hs : (l.length : Int) ≤ 100) (ht : TabA w) :
    Calls Tryd.prog 3 #[.slice A l.length c, .int .i64 W, .int .i64 n] w (Yes w) := by
  have HR0 := Lib.hid (cells_row hr rfl hnc)
  have C1 := Lib.hid (gPack_any W A l.length c l w hr rfl (by omega) hlt64 ht)
  have C2 := Lib.hid (fun (v : Value) (w : World) (h : IsCells (wvs l) v w) (Q : List UInt8) (hQ : Packs Q (packG W l)) => rPack_bytes W l v w h (by omega) hlt64 Q hQ)
  have HM := Lib.hid (fun (Q : List UInt8) (hQ : Packs Q (packG W l)) => pack_most W l Q hQ (by omega))
  obtain ⟨M, hM⟩ : ∃ M, M = mostG (l.length : Int) W := ⟨_, rfl⟩
  have c3 := fun (w : World) => gMost_any (l.length : Int) W w
  have hm := HM.out
  rw [← hM] at c3 hm
  have HM := Lib.hid hm
  have C3 := Lib.hid c3
  have HT := Lib.hid ht
  clear hr hnc hlt64 ht hM c3 hm
  go_enter Tryd.func3, Tryd.ntmps3
  go_wp2_with fail
  refine C1.out.mono ?_
  rintro e w1 ⟨Q, hQ, v, rfl, hown, hb⟩
  obtain ⟨A1, c1, rfl, -, -, -⟩ := own_form hown
  have HQ := Lib.hid hQ
  have HV := Lib.hid (IsBytes.of_own hown)
  have HR := Lib.hid (HR0.out.grow hb)
  have HB := Lib.hid hb
  have HT2 := Lib.hid (HT.out.grow hb)
  have HLE := Lib.hid (HM.out Q hQ)
  clear hb C1 HR0 hQ hown HT HM
  go_wp2
  have hle := HLE.out
  refine wp_region_grow [⟨15, [], .is (.slice A1 Q.length c1)⟩,
    ⟨16, [0], .is (.string ⟨(Q).toArray⟩)⟩,
    ⟨17, [], .is (.slice A l.length c)⟩,
    ⟨18, [], .is (.int .i64 W)⟩,
    ⟨19, [2, 3], .bytes (Q)⟩,
    ⟨20, [4], .is (.string ⟨(Q).toArray⟩)⟩,
    ⟨21, [1, 5], .is (.bool true)⟩,
    ⟨22, [6], .is (.bool true)⟩,
    ⟨23, [7], .is (.slice A1 Q.length c1)⟩,
    ⟨24, [8, 7], .is (.int .i64 (Q.length : Nat))⟩,
    ⟨25, [7], .is (.slice A l.length c)⟩,
    ⟨26, [10, 7], .is (.int .i64 (l.length : Nat))⟩,
    ⟨27, [7], .is (.int .i64 W)⟩,
    ⟨28, [11, 12, 7], .is (.int .i64 M)⟩,
    ⟨29, [9, 13, 7], .is (.bool true)⟩,
    ⟨30, [7, 14], .is (.bool true)⟩,
    ⟨31, [15], .is (.bool true)⟩,
    ⟨32, [16], .is (.int .i64 n)⟩,
    ⟨33, [16], .is (.int .i64 W)⟩,
    ⟨34, [17, 18, 16], .is (.int .i64 (mostG n W))⟩,
    ⟨35, [16], .is (.int .i64 n)⟩,
    ⟨36, [16], .is (.int .i64 W)⟩,
    ⟨37, [20, 21, 16], .is (.int .i64 (mostG n W))⟩,
    ⟨38, [19, 22, 16], .is (.bool true)⟩,
    ⟨39, [16, 23], .is (.bool true)⟩,
    ⟨40, [24], .is (.bool true)⟩,
    ⟨41, [25], .is (.bool true)⟩,
    ⟨42, [25, 26], .is (.bool true)⟩,
    ⟨6, [27], .is (.bool true)⟩]
    [(7, .slice A1 Q.length c1), (0, .slice A l.length c), (1, .int .i64 W), (2, .int .i64 n)] (by kernel_rfl) (by kernel_rfl) (by kernel_rfl) (by kernel_rfl) (by kernel_rfl) ⟨rfl, rfl, rfl, rfl, trivial⟩ ?_ ?_
  · repeat' (first | exact OblGAll.nil | refine OblGAll.cons ?_ ?_)
    all_goals (intro ev yi w' hB hc hf ho hn; simp only [OutsSay, NeedSay, rowAt, Fact.says, and_true] at ho hn)
    all_goals (try ((simp [OpSays, execOp, Region.wanted, Fact.says, boolOf, go_sem, ho, hn, hc, Below.refl, hle]; done)))
    · rw [if_pos (by simp [Region.wanted])]
      exact says_str rfl Tryd.underlying24 Tryd.underlying5 Tryd.underlying9 (by rw [hn.1]; exact HV.out.grow hB) ⟨rfl, Below.refl _ _⟩
    · rw [if_pos (by simp [Region.wanted])]
      exact says_call Tryd.call8 (vs := #[.slice A l.length c, .int .i64 W]) rfl hf (by simp [hn]) (C2.out _ w' (HR.out.grow hB) Q HQ.out)
    · rw [if_pos (by simp [Region.wanted])]
      exact says_str rfl Tryd.underlying24 Tryd.underlying5 Tryd.underlying9 hn.1 ⟨rfl, Below.refl _ _⟩
    · rw [if_pos (by simp [Region.wanted, hn, boolOf])]
      exact says_call Tryd.call9 (vs := #[.int .i64 (l.length : Nat), .int .i64 W]) rfl hf (by simp [hn]) ((C3.out w').mono fun _ _ h => ⟨_, h.1, rfl, h.2 ▸ Below.refl _ _⟩)
    · rw [if_pos (by simp [Region.wanted, hn, boolOf])]
      exact says_call Tryd.call9 (vs := #[.int .i64 n, .int .i64 W]) rfl hf (by simp [hn]) ((gMost_any n W w').mono fun _ _ h => ⟨_, h.1, rfl, h.2 ▸ Below.refl _ _⟩)
    · rw [if_pos (by simp [Region.wanted, hn, boolOf])]
      exact says_call Tryd.call10 (vs := #[.int .i64 n, .int .i64 W]) rfl hf (by simp [hn]) ((rMost_any n W w').mono fun _ _ h => ⟨_, h.1, rfl, h.2 ▸ Below.refl _ _⟩)
    · rw [if_pos (by simp [Region.wanted, hn, boolOf])]
      exact says_call Tryd.call6 (vs := #[]) rfl hf (by simp) ((gorKnown_any w' (HT2.out.grow hB)).mono fun _ _ h => ⟨_, h.1, rfl, h.2⟩)
  · intro X w4 hb4 hx
    have hlast : X 28 = .bool true := hx 28 (by decide)
    clear hx
    have HL := Lib.hid hlast
    clear hlast
    simp only [layAll, List.setIfInBounds_toArray, List.set_cons_succ, List.set_cons_zero]
    go_wp2
    go_ret
    exact ⟨congrArg Ending.returned HL.out, HB.out.trans (hb4.mono HB.out.size)⟩
theorem gorPacks_law (A : Option Addr) (n0 c : Nat) (l : List Nat) (W n : Int) (w : World) (hr : Rd w w.heap.size A (wvs l)) (hn : l.length = n0) (hnc : n0 ≤ c) (hlt64 : ∀ x ∈ l, x < 18446744073709551616) (ht : TabA w) :
    Calls Tryd.prog 3 #[.slice A n0 c, .int .i64 W, .int .i64 n] w (Yes w) := by
  subst hn
  by_cases hs : (l.length : Int) ≤ 100
  · exact gorPacks_core A c l W n w hr hnc hlt64 hs ht
  · have HT := Lib.hid ht
    clear hr hlt64 ht
    go_enter Tryd.func3, Tryd.ntmps3
    go_wp2_with (go_at_call 6; go_must (refine (gorKnown_any _ HT.out).mono ?_; rintro e w' ⟨rfl, hb⟩))
    go_ret
    exact ⟨rfl, hb⟩
end Go.Proofs.YtclhgjjehnmncaaDoor
