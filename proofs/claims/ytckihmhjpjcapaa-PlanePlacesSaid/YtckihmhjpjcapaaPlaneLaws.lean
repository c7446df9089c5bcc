/- Laws of layer 8: what is fixed; PlaneDoes, PlaneBack. -/
import Derived.Test.YtckihmhjpjcapaaPlaneRef
import Derived.Test.YtckihmhjpjcapaaRegion2
import Derived.Test.YtckihmhjpjcapaaArg
namespace Go.Proofs.Ytckihmhjpjcapaa
open Go.RowKit

theorem IsBytes.row {w : World} {A : Option Addr} {n c : Nat} {l : List UInt8} (hr : Rd w w.heap.size A (bvs l)) (hn : l.length = n) (hnc : n ≤ c) : IsBytes l (.slice A n c) w := by
  subst hn
  exact ⟨A, c, rfl, hnc, hr⟩
theorem pSplit_bytes (W : Int) (l : List UInt8) (v : Value) (w : World) (h : IsBytes l v w) (hb : l.length ≤ 100000) :
    Calls Try.prog 7 #[v, .int .i64 W] w fun e w'' => ∃ v, e = .returned v ∧ (Fact.bytes (ofB splitL W l)).says v w'' ∧ Below w.heap.size w w'' := by
  obtain ⟨A, c, rfl, hc, hr⟩ := h
  exact (planeSplit_any W A l.length c l w hr rfl (by omega)).mono fun _ _ => NewBs.says
theorem pJoin_bytes (W : Int) (l : List UInt8) (v : Value) (w : World) (h : IsBytes l v w) (hb : l.length ≤ 100000) :
    Calls Try.prog 9 #[v, .int .i64 W] w fun e w'' => ∃ v, e = .returned v ∧ (Fact.bytes (ofB joinL W l)).says v w'' ∧ Below w.heap.size w w'' := by
  obtain ⟨A, c, rfl, hc, hr⟩ := h
  exact (planeJoin_any W A l.length c l w hr rfl (by omega)).mono fun _ _ => NewBs.says
theorem rSplit_bytes (W : Int) (l : List UInt8) (v : Value) (w : World) (h : IsBytes l v w) (hb : l.length ≤ 100000) :
    Calls Try.prog 8 #[v, .int .i64 W] w fun e w'' => ∃ v, e = .returned v ∧ (Fact.bytes (ofB splitL W l)).says v w'' ∧ Below w.heap.size w w'' := by
  obtain ⟨A, c, rfl, hc, hr⟩ := h
  exact (refSplit_any W A l.length c l w hr rfl hc (by omega)).mono fun _ _ => NewBs.says
theorem rJoin_bytes (W : Int) (l : List UInt8) (v : Value) (w : World) (h : IsBytes l v w) (hb : l.length ≤ 100000) :
    Calls Try.prog 10 #[v, .int .i64 W] w fun e w'' => ∃ v, e = .returned v ∧ (Fact.bytes (ofB joinL W l)).says v w'' ∧ Below w.heap.size w w'' := by
  obtain ⟨A, c, rfl, hc, hr⟩ := h
  exact (refJoin_any W A l.length c l w hr rfl hc (by omega)).mono fun _ _ => NewBs.says
theorem k_split : ofB splitL 2 [1, 2, 3, 4, 5] = [1, 3, 2, 4, 5] := by decide
theorem k_join : ofB joinL 2 [1, 3, 2, 4, 5] = [1, 2, 3, 4, 5] := by decide
theorem k_place : placeI 5 2 1 = 2 := by decide
set_option maxHeartbeats 1000000 in
set_option maxRecDepth 100000 in
theorem planeKnown_any (w : World) : Calls Try.prog 6 #[] w (Yes w) := by
  have c1 := fun (v : Value) (w : World) (h : IsBytes [1, 2, 3, 4, 5] v w) => pSplit_bytes 2 [1, 2, 3, 4, 5] v w h (by decide)
  rw [k_split] at c1
  have c2 := fun (v : Value) (w : World) (h : IsBytes [1, 3, 2, 4, 5] v w) => pJoin_bytes 2 [1, 3, 2, 4, 5] v w h (by decide)
  rw [k_join] at c2
  have c3 := fun (w : World) => place_any 5 2 1 (by decide) w
  rw [k_place] at c3
  have C1 := Lib.hid c1
  have C2 := Lib.hid c2
  have C3 := Lib.hid c3
  clear c1 c2 c3
  go_enter Try.func6, Try.ntmps6
  go_wp2
  refine wp_region_grow [⟨1, [], .bytes [1, 2, 3, 4, 5]⟩,
    ⟨2, [0], .bytes [1, 3, 2, 4, 5]⟩,
    ⟨3, [1], .is (.string ⟨#[1, 3, 2, 4, 5]⟩)⟩,
    ⟨4, [], .bytes [1, 3, 2, 4, 5]⟩,
    ⟨5, [3], .is (.string ⟨#[1, 3, 2, 4, 5]⟩)⟩,
    ⟨6, [2, 4], .is (.bool true)⟩,
    ⟨7, [5], .is (.bool true)⟩,
    ⟨8, [6], .bytes [1, 3, 2, 4, 5]⟩,
    ⟨9, [7, 6], .bytes [1, 2, 3, 4, 5]⟩,
    ⟨10, [8, 6], .is (.string ⟨#[1, 2, 3, 4, 5]⟩)⟩,
    ⟨11, [6], .bytes [1, 2, 3, 4, 5]⟩,
    ⟨12, [10, 6], .is (.string ⟨#[1, 2, 3, 4, 5]⟩)⟩,
    ⟨13, [9, 11, 6], .is (.bool true)⟩,
    ⟨14, [6, 12], .is (.bool true)⟩,
    ⟨15, [13], .is (.bool true)⟩,
    ⟨16, [14], .is (.int .i64 2)⟩,
    ⟨17, [15, 14], .is (.bool true)⟩,
    ⟨18, [14, 16], .is (.bool true)⟩,
    ⟨0, [17], .is (.bool true)⟩]
    [] (by kernel_rfl) (by kernel_rfl) (by kernel_rfl) (by kernel_rfl) (by kernel_rfl) trivial ?_ ?_
  · repeat' (first | exact OblGAll.nil | refine OblGAll.cons ?_ ?_)
    all_goals (intro ev yi w' hB hc hf ho hn; simp only [OutsSay, NeedSay, rowAt, Fact.says, and_true] at ho hn)
    all_goals (try ((simp [OpSays, execOp, Region.wanted, Fact.says, boolOf, go_sem, hn, hc, Below.refl]; done)))
    · rw [if_pos (by simp [Region.wanted])]
      simp [OpSays, execOp, go_sem, hc]
      exact ⟨⟨_, 5, rfl, by decide, Rd.new w' _ _⟩, (Below.refl _ _).alloc (Nat.le_refl _) _⟩
    · rw [if_pos (by simp [Region.wanted])]
      exact says_call Try.call7 (vs := #[ev (.tmp 1), .int .i64 2]) rfl hf (by simp [hc]) (C1.out _ w' hn.1)
    · rw [if_pos (by simp [Region.wanted])]
      exact says_str rfl Try.underlying22 Try.underlying5 Try.underlying9 hn.1 ⟨rfl, Below.refl _ _⟩
    · rw [if_pos (by simp [Region.wanted])]
      simp [OpSays, execOp, go_sem, hc]
      exact ⟨⟨_, 5, rfl, by decide, Rd.new w' _ _⟩, (Below.refl _ _).alloc (Nat.le_refl _) _⟩
    · rw [if_pos (by simp [Region.wanted])]
      exact says_str rfl Try.underlying22 Try.underlying5 Try.underlying9 hn.1 ⟨rfl, Below.refl _ _⟩
    · rw [if_pos (by simp [Region.wanted, hn, boolOf])]
      simp [OpSays, execOp, go_sem, hc]
      exact ⟨⟨_, 5, rfl, by decide, Rd.new w' _ _⟩, (Below.refl _ _).alloc (Nat.le_refl _) _⟩
    · rw [if_pos (by simp [Region.wanted, hn, boolOf])]
      exact says_call Try.call9 (vs := #[ev (.tmp 8), .int .i64 2]) rfl hf (by simp [hc]) (C2.out _ w' hn.1)
    · rw [if_pos (by simp [Region.wanted, hn, boolOf])]
      exact says_str rfl Try.underlying22 Try.underlying5 Try.underlying9 hn.1 ⟨rfl, Below.refl _ _⟩
    · rw [if_pos (by simp [Region.wanted, hn, boolOf])]
      simp [OpSays, execOp, go_sem, hc]
      exact ⟨⟨_, 5, rfl, by decide, Rd.new w' _ _⟩, (Below.refl _ _).alloc (Nat.le_refl _) _⟩
    · rw [if_pos (by simp [Region.wanted, hn, boolOf])]
      exact says_str rfl Try.underlying22 Try.underlying5 Try.underlying9 hn.1 ⟨rfl, Below.refl _ _⟩
    · rw [if_pos (by simp [Region.wanted, hn, boolOf])]
      exact says_call Try.call11 (vs := #[.int .i64 5, .int .i64 2, .int .i64 1]) rfl hf (by simp [hc]) ((C3.out w').mono fun _ _ h => ⟨_, h.1, rfl, h.2⟩)
  · intro X w4 hb4 hx
    have hlast : X 18 = .bool true := hx 18 (by decide)
    clear hx
    have HL := Lib.hid hlast
    clear hlast
    simp only [layAll, List.setIfInBounds_toArray, List.set_cons_succ, List.set_cons_zero]
    go_wp2
    go_ret
    exact ⟨congrArg Ending.returned HL.out, hb4⟩
set_option maxHeartbeats 1000000 in
set_option maxRecDepth 100000 in
theorem planeDoes_core (A : Option Addr) (c : Nat) (l : List UInt8) (W : Int) (w : World) (hr : Rd w w.heap.size A (bvs l)) (hnc : l.length ≤ c) (hs : (l.length : Int) ≤ 600) :
    Calls Try.prog 3 #[.slice A l.length c, .int .i64 W] w (Yes w) := by
  have hl : l.length ≤ 100000 := by omega
  have HR := Lib.hid (IsBytes.row hr rfl hnc)
  clear hr hnc
  go_enter Try.func3, Try.ntmps3
  go_wp2
  refine wp_region_grow [⟨9, [], .is (.slice A l.length c)⟩,
    ⟨10, [], .is (.int .i64 W)⟩,
    ⟨11, [0, 1], .bytes (ofB splitL W l)⟩,
    ⟨12, [2], .is (.string ⟨(ofB splitL W l).toArray⟩)⟩,
    ⟨13, [], .is (.slice A l.length c)⟩,
    ⟨14, [], .is (.int .i64 W)⟩,
    ⟨15, [4, 5], .bytes (ofB splitL W l)⟩,
    ⟨16, [6], .is (.string ⟨(ofB splitL W l).toArray⟩)⟩,
    ⟨17, [3, 7], .is (.bool true)⟩,
    ⟨18, [8], .is (.bool true)⟩,
    ⟨19, [9], .is (.slice A l.length c)⟩,
    ⟨20, [9], .is (.int .i64 W)⟩,
    ⟨21, [10, 11, 9], .bytes (ofB joinL W l)⟩,
    ⟨22, [12, 9], .is (.string ⟨(ofB joinL W l).toArray⟩)⟩,
    ⟨23, [9], .is (.slice A l.length c)⟩,
    ⟨24, [9], .is (.int .i64 W)⟩,
    ⟨25, [14, 15, 9], .bytes (ofB joinL W l)⟩,
    ⟨26, [16, 9], .is (.string ⟨(ofB joinL W l).toArray⟩)⟩,
    ⟨27, [13, 17, 9], .is (.bool true)⟩,
    ⟨28, [9, 18], .is (.bool true)⟩,
    ⟨29, [19], .is (.bool true)⟩,
    ⟨30, [20], .is (.bool true)⟩,
    ⟨31, [20, 21], .is (.bool true)⟩,
    ⟨4, [22], .is (.bool true)⟩]
    [(0, .slice A l.length c), (1, .int .i64 W)] (by kernel_rfl) (by kernel_rfl) (by kernel_rfl) (by kernel_rfl) (by kernel_rfl) ⟨rfl, rfl, trivial⟩ ?_ ?_
  · repeat' (first | exact OblGAll.nil | refine OblGAll.cons ?_ ?_)
    all_goals (intro ev yi w' hB hc hf ho hn; simp only [OutsSay, NeedSay, rowAt, Fact.says, and_true] at ho hn)
    all_goals (try ((simp [OpSays, execOp, Region.wanted, Fact.says, boolOf, go_sem, ho, hn, hc, Below.refl]; done)))
    · rw [if_pos (by simp [Region.wanted])]
      exact says_call Try.call7 (vs := #[.slice A l.length c, .int .i64 W]) rfl hf (by simp [hn]) (pSplit_bytes W l _ w' (HR.out.grow hB) hl)
    · rw [if_pos (by simp [Region.wanted])]
      exact says_str rfl Try.underlying22 Try.underlying5 Try.underlying9 hn.1 ⟨rfl, Below.refl _ _⟩
    · rw [if_pos (by simp [Region.wanted])]
      exact says_call Try.call8 (vs := #[.slice A l.length c, .int .i64 W]) rfl hf (by simp [hn]) (rSplit_bytes W l _ w' (HR.out.grow hB) hl)
    · rw [if_pos (by simp [Region.wanted])]
      exact says_str rfl Try.underlying22 Try.underlying5 Try.underlying9 hn.1 ⟨rfl, Below.refl _ _⟩
    · rw [if_pos (by simp [Region.wanted, hn, boolOf])]
      exact says_call Try.call9 (vs := #[.slice A l.length c, .int .i64 W]) rfl hf (by simp [hn]) (pJoin_bytes W l _ w' (HR.out.grow hB) hl)
    · rw [if_pos (by simp [Region.wanted, hn, boolOf])]
      exact says_str rfl Try.underlying22 Try.underlying5 Try.underlying9 hn.1 ⟨rfl, Below.refl _ _⟩
    · rw [if_pos (by simp [Region.wanted, hn, boolOf])]
      exact says_call Try.call10 (vs := #[.slice A l.length c, .int .i64 W]) rfl hf (by simp [hn]) (rJoin_bytes W l _ w' (HR.out.grow hB) hl)
    · rw [if_pos (by simp [Region.wanted, hn, boolOf])]
      exact says_str rfl Try.underlying22 Try.underlying5 Try.underlying9 hn.1 ⟨rfl, Below.refl _ _⟩
    · rw [if_pos (by simp [Region.wanted, hn, boolOf])]
      exact says_call Try.call6 (vs := #[]) rfl hf (by simp) ((planeKnown_any w').mono fun _ _ h => ⟨_, h.1, rfl, h.2⟩)
  · intro X w4 hb4 hx
    have hlast : X 23 = .bool true := hx 23 (by decide)
    clear hx
    have HL := Lib.hid hlast
    clear hlast
    simp only [layAll, List.setIfInBounds_toArray, List.set_cons_succ, List.set_cons_zero]
    go_wp2
    go_ret
    exact ⟨congrArg Ending.returned HL.out, hb4⟩
theorem planeDoes_law (A : Option Addr) (n c : Nat) (l : List UInt8) (W : Int) (w : World) (hr : Rd w w.heap.size A (bvs l)) (hn : l.length = n) (hnc : n ≤ c) :
    Calls Try.prog 3 #[.slice A n c, .int .i64 W] w (Yes w) := by
  subst hn
  by_cases hs : (l.length : Int) ≤ 600
  · exact planeDoes_core A c l W w hr hnc hs
  · clear hr
    go_enter Try.func3, Try.ntmps3
    go_wp2_with (go_at_call 6; go_must (refine (planeKnown_any _).mono ?_; rintro e w' ⟨rfl, hb⟩))
    go_ret
    exact ⟨rfl, hb⟩
set_option maxHeartbeats 1000000 in
set_option maxRecDepth 100000 in
theorem planeBack_core (V : Nat) (hV : IsW V) (A : Option Addr) (c : Nat) (l : List UInt8) (u : Nat) (w : World) (hr : Rd w w.heap.size A (bvs l)) (hnc : l.length ≤ c) (hs : (l.length : Int) ≤ 1000) (hw : wrap64 (2 ^ (u % 4)) = (V : Int)) :
    Calls Try.prog 5 #[.slice A l.length c, .int .u8 (u : Int)] w (Yes w) := by
  have HR := Lib.hid (IsBytes.row hr rfl hnc)
  have c1 := fun (v : Value) (w : World) (h : IsBytes l v w) => pSplit_bytes (V : Int) l v w h (by omega)
  have c2 := fun (v : Value) (w : World) (h : IsBytes (splitL V l) v w) => pJoin_bytes (V : Int) (splitL V l) v w h (by rw [splitL_len]; omega)
  have c3 := fun (v : Value) (w : World) (h : IsBytes l v w) => pJoin_bytes (V : Int) l v w h (by omega)
  have c4 := fun (v : Value) (w : World) (h : IsBytes (joinL V l) v w) => pSplit_bytes (V : Int) (joinL V l) v w h (by rw [joinL_len]; omega)
  rw [ofB_of hV] at c1 c2 c3 c4
  rw [join_split hV.pos.1] at c2
  rw [split_join hV.pos.1] at c4
  have C1 := Lib.hid c1
  have C2 := Lib.hid c2
  have C3 := Lib.hid c3
  have C4 := Lib.hid c4
  clear hr hnc c1 c2 c3 c4
  go_enter Try.func5, Try.ntmps5
  go_wp2
  simp only [hw]
  clear hw hV
  refine wp_region_grow [⟨13, [], .is (.slice A l.length c)⟩,
    ⟨14, [], .is (.int .i64 (V : Int))⟩,
    ⟨15, [0, 1], .bytes (splitL V l)⟩,
    ⟨16, [], .is (.int .i64 (V : Int))⟩,
    ⟨17, [2, 3], .bytes (l)⟩,
    ⟨18, [4], .is (.string ⟨(l).toArray⟩)⟩,
    ⟨19, [], .is (.slice A l.length c)⟩,
    ⟨20, [6], .is (.string ⟨(l).toArray⟩)⟩,
    ⟨21, [5, 7], .is (.bool true)⟩,
    ⟨22, [8], .is (.bool true)⟩,
    ⟨23, [9], .is (.slice A l.length c)⟩,
    ⟨24, [9], .is (.int .i64 (V : Int))⟩,
    ⟨25, [10, 11, 9], .bytes (joinL V l)⟩,
    ⟨26, [9], .is (.int .i64 (V : Int))⟩,
    ⟨27, [12, 13, 9], .bytes (l)⟩,
    ⟨28, [14, 9], .is (.string ⟨(l).toArray⟩)⟩,
    ⟨29, [9], .is (.slice A l.length c)⟩,
    ⟨30, [16, 9], .is (.string ⟨(l).toArray⟩)⟩,
    ⟨31, [15, 17, 9], .is (.bool true)⟩,
    ⟨32, [9, 18], .is (.bool true)⟩,
    ⟨33, [19], .is (.bool true)⟩,
    ⟨34, [20], .is (.bool true)⟩,
    ⟨35, [20, 21], .is (.bool true)⟩,
    ⟨4, [22], .is (.bool true)⟩]
    [(0, .slice A l.length c), (5, .int .i64 (V : Int))] (by kernel_rfl) (by kernel_rfl) (by kernel_rfl) (by kernel_rfl) (by kernel_rfl) ⟨rfl, rfl, trivial⟩ ?_ ?_
  · repeat' (first | exact OblGAll.nil | refine OblGAll.cons ?_ ?_)
    all_goals (intro ev yi w' hB hc hf ho hn; simp only [OutsSay, NeedSay, rowAt, Fact.says, and_true] at ho hn)
    all_goals (try ((simp [OpSays, execOp, Region.wanted, Fact.says, boolOf, go_sem, ho, hn, hc, Below.refl]; done)))
    · rw [if_pos (by simp [Region.wanted])]
      exact says_call Try.call7 (vs := #[.slice A l.length c, .int .i64 (V : Int)]) rfl hf (by simp [hn]) (C1.out _ w' (HR.out.grow hB))
    · rw [if_pos (by simp [Region.wanted])]
      exact says_call Try.call9 (vs := #[ev (.tmp 15), .int .i64 (V : Int)]) rfl hf (by simp [hn]) (C2.out _ w' hn.1)
    · rw [if_pos (by simp [Region.wanted])]
      exact says_str rfl Try.underlying22 Try.underlying5 Try.underlying9 hn.1 ⟨rfl, Below.refl _ _⟩
    · rw [if_pos (by simp [Region.wanted])]
      exact says_str rfl Try.underlying22 Try.underlying5 Try.underlying9 (by rw [hn.1]; exact HR.out.grow hB) ⟨rfl, Below.refl _ _⟩
    · rw [if_pos (by simp [Region.wanted, hn, boolOf])]
      exact says_call Try.call9 (vs := #[.slice A l.length c, .int .i64 (V : Int)]) rfl hf (by simp [hn]) (C3.out _ w' (HR.out.grow hB))
    · rw [if_pos (by simp [Region.wanted, hn, boolOf])]
      exact says_call Try.call7 (vs := #[ev (.tmp 25), .int .i64 (V : Int)]) rfl hf (by simp [hn]) (C4.out _ w' hn.1)
    · rw [if_pos (by simp [Region.wanted, hn, boolOf])]
      exact says_str rfl Try.underlying22 Try.underlying5 Try.underlying9 hn.1 ⟨rfl, Below.refl _ _⟩
    · rw [if_pos (by simp [Region.wanted, hn, boolOf])]
      exact says_str rfl Try.underlying22 Try.underlying5 Try.underlying9 (by rw [hn.1]; exact HR.out.grow hB) ⟨rfl, Below.refl _ _⟩
    · rw [if_pos (by simp [Region.wanted, hn, boolOf])]
      exact says_call Try.call6 (vs := #[]) rfl hf (by simp) ((planeKnown_any w').mono fun _ _ h => ⟨_, h.1, rfl, h.2⟩)
  · intro X w4 hb4 hx
    have hlast : X 23 = .bool true := hx 23 (by decide)
    clear hx
    have HL := Lib.hid hlast
    clear hlast
    simp only [layAll, List.setIfInBounds_toArray, List.set_cons_succ, List.set_cons_zero]
    go_wp2
    go_ret
    exact ⟨congrArg Ending.returned HL.out, hb4⟩
theorem planeBack_law (A : Option Addr) (n c : Nat) (l : List UInt8) (u : Nat) (w : World) (hr : Rd w w.heap.size A (bvs l)) (hn : l.length = n) (hnc : n ≤ c) :
    Calls Try.prog 5 #[.slice A n c, .int .u8 (u : Int)] w (Yes w) := by
  subst hn
  by_cases hs : (l.length : Int) ≤ 1000
  · obtain ⟨V, hV, hw⟩ := width_of u
    exact planeBack_core V hV A c l u w hr hnc hs hw
  · clear hr
    go_enter Try.func5, Try.ntmps5
    go_wp2_with (go_at_call 6; go_must (refine (planeKnown_any _).mono ?_; rintro e w' ⟨rfl, hb⟩))
    go_ret
    exact ⟨rfl, hb⟩
end Go.Proofs.Ytckihmhjpjcapaa
