/- Law WordLays. -/
import Derived.Test.YtfflecnameiceaaWordLay
import Derived.Test.YtfflecnameiceaaWordKnown
namespace Go.Proofs.Ytfflecnameiceaa
open Go.RowKit

/-- Whatever the width: both Lays hand back the same bytes. -/
theorem lays_alike (W : Int) (A : Option Addr) (n c : Nat) (ws : List Nat) (A2 : Option Addr) (r c2 : Nat) (rest : List UInt8) (hn : ws.length = n) (hlt64 : ∀ x ∈ ws, x < 18446744073709551616) (hrl : rest.length = r) (hb1 : n ≤ 1000) (hb2 : r ≤ 1000) :
    ∃ L : List UInt8, (∀ w : World, Rd w w.heap.size A (wvs ws) → Rd w w.heap.size A2 (bvs rest) → Calls Try.prog 28 #[.slice A n c, .int .i64 W, .slice A2 r c2] w (NewBs w L)) ∧
      (∀ w : World, Rd w w.heap.size A (wvs ws) → Rd w w.heap.size A2 (bvs rest) → Calls Try.prog 29 #[.slice A n c, .int .i64 W, .slice A2 r c2] w (NewBs w L)) := by
  cases hr : rightB W with
  | false => exact ⟨[], fun w _ _ => wordLay_wrong _ _ W w hr, fun w _ _ => refLay_wrong _ _ W w hr⟩
  | true =>
    obtain ⟨V, rfl, hV⟩ := isW_of hr
    exact ⟨layW V ws ++ rest, fun w h h2 => wordLay_any V hV A n c ws A2 r c2 rest w h hn hlt64 h2 hrl hb1 hb2, fun w h h2 => refLay_any V hV A n c ws A2 r c2 rest w h hn hlt64 h2 hrl hb1 hb2⟩

theorem NewBs.says {w : World} {l : List UInt8} {e : Ending} {w' : World} (h : NewBs w l e w') : ∃ v, e = .returned v ∧ (Fact.bytes l).says v w' ∧ Below w.heap.size w w' := h

set_option maxHeartbeats 1000000 in
set_option maxRecDepth 100000 in
theorem wordLays_law (A : Option Addr) (n c : Nat) (W : Int) (A2 : Option Addr) (r c2 : Nat) (ws : List Nat) (rest : List UInt8) (w : World) (hr : Rd w w.heap.size A (wvs ws)) (hn : ws.length = n) (hlt64 : ∀ x ∈ ws, x < 18446744073709551616) (hr2 : Rd w w.heap.size A2 (bvs rest)) (hrl : rest.length = r) :
    Calls Try.prog 8 #[.slice A n c, .int .i64 W, .slice A2 r c2] w (Yes w) := by
  by_cases h1 : (100 : Int) < (n : Int)
  · go_enter Try.func8, Try.ntmps8
    go_wp2_with (go_at_call 20; go_must (refine (wordKnown_any _).mono ?_; rintro e w' ⟨rfl, hb⟩))
    go_ret
    exact ⟨rfl, hb⟩
  · by_cases h2 : (100 : Int) < (r : Int)
    · go_enter Try.func8, Try.ntmps8
      go_wp2_with (go_at_call 20; go_must (refine (wordKnown_any _).mono ?_; rintro e w' ⟨rfl, hb⟩))
      go_ret
      exact ⟨rfl, hb⟩
    · obtain ⟨L, c1, c2'⟩ := lays_alike W A n c ws A2 r c2 rest hn hlt64 hrl (by omega) (by omega)
      have C1 := Lib.hid c1
      have C2 := Lib.hid c2'
      clear c1 c2' hn hrl hlt64
      go_enter Try.func8, Try.ntmps8
      go_wp2
      refine wp_region_grow [⟨16, [], .is (.slice A n c)⟩,
        ⟨17, [], .is (.int .i64 W)⟩,
        ⟨18, [], .is (.slice A2 r c2)⟩,
        ⟨19, [0, 1, 2], .bytes L⟩,
        ⟨20, [3], .is (.string ⟨L.toArray⟩)⟩,
        ⟨21, [], .is (.slice A n c)⟩,
        ⟨22, [], .is (.int .i64 W)⟩,
        ⟨23, [], .is (.slice A2 r c2)⟩,
        ⟨24, [5, 6, 7], .bytes L⟩,
        ⟨25, [8], .is (.string ⟨L.toArray⟩)⟩,
        ⟨26, [4, 9], .is (.bool true)⟩,
        ⟨27, [10], .is (.bool true)⟩,
        ⟨28, [11], .is (.bool true)⟩,
        ⟨29, [11, 12], .is (.bool true)⟩,
        ⟨6, [13], .is (.bool true)⟩]
        [(0, .slice A n c), (1, .int .i64 W), (2, .slice A2 r c2)] (by kernel_rfl) (by kernel_rfl) (by kernel_rfl) (by kernel_rfl) (by kernel_rfl) ⟨rfl, rfl, rfl, trivial⟩ ?_ ?_
      · repeat' (first | exact OblGAll.nil | refine OblGAll.cons ?_ ?_)
        all_goals (intro ev yi W' hB _ hf ho hn; simp only [OutsSay, NeedSay, rowAt, Fact.says, and_true] at ho hn)
        all_goals (try ((simp [OpSays, execOp, Region.wanted, Fact.says, boolOf, go_sem, ho, hn, Below.refl]; done)))
        · rw [if_pos (by simp [Region.wanted])]
          exact says_call Try.call28 (vs := #[.slice A n c, .int .i64 W, .slice A2 r c2]) rfl hf (by simp [hn]) ((C1.out W' ((hr.below hB).more hB.size) ((hr2.below hB).more hB.size)).mono fun _ _ => NewBs.says)
        · rw [if_pos (by simp [Region.wanted])]
          exact says_str rfl Try.underlying23 Try.underlying5 Try.underlying9 hn.1 ⟨rfl, Below.refl _ _⟩
        · rw [if_pos (by simp [Region.wanted])]
          exact says_call Try.call29 (vs := #[.slice A n c, .int .i64 W, .slice A2 r c2]) rfl hf (by simp [hn]) ((C2.out W' ((hr.below hB).more hB.size) ((hr2.below hB).more hB.size)).mono fun _ _ => NewBs.says)
        · rw [if_pos (by simp [Region.wanted])]
          exact says_str rfl Try.underlying23 Try.underlying5 Try.underlying9 hn.1 ⟨rfl, Below.refl _ _⟩
        · rw [if_pos (by simp [Region.wanted, hn, boolOf])]
          exact says_call Try.call20 (vs := #[]) rfl hf (by simp) ((wordKnown_any W').mono fun _ _ h => ⟨_, h.1, rfl, h.2⟩)
      · intro X w4 hb4 hx
        have h14 : X 14 = .bool true := hx 14 (by decide)
        clear hx
        have H14 := Lib.hid h14
        clear h14
        simp only [layAll, List.setIfInBounds_toArray, List.set_cons_succ, List.set_cons_zero]
        go_wp2
        go_ret
        exact ⟨congrArg Ending.returned H14.out, hb4⟩
end Go.Proofs.Ytfflecnameiceaa
