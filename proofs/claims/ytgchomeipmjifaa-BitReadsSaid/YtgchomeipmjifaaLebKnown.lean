/- The fixed calls of layer 2's laws. -/
import Derived.Test.YtgchomeipmjifaaLebPut
import Derived.Test.YtgchomeipmjifaaLebGet
import Derived.Test.YtgchomeipmjifaaRegion2
import Derived.Deep.DeepCutAuto
namespace Go.Proofs.Ytgchomeipmjifaa
open Go.RowKit

theorem NewB.says {w : World} {l : List UInt8} {e : Ending} {w' : World} (h : NewB w l e w') : ∃ v, e = .returned v ∧ (Fact.bytes l).says v w' ∧ Below w.heap.size w w' := by
  obtain ⟨v, he, hown, hb⟩ := h
  exact ⟨v, he, IsBytes.of_own hown, hb⟩

/-- What answers true, and turns nothing that was there. -/
def Yes (w : World) (e : Ending) (w' : World) : Prop := e = .returned (.bool true) ∧ Below w.heap.size w w'

theorem lget_128_0 : lget [128, 0] = (0, 0, 21) := by decide
theorem lput_1 : lput 1 = [1] := by rw [lput]; rfl
theorem lput_300 : lput 300 = [172, 2] := by rw [lput, if_neg (by omega), lput, if_pos (by omega)]; rfl
theorem lget_1 : lget [1] = (1, 1, 0) := by decide
theorem foldI_m1 : (foldI (-1)).toNat = 1 := by decide

set_option maxHeartbeats 1000000 in
set_option maxRecDepth 100000 in
theorem lebKnown_any (w : World) : Calls Try.prog 31 #[] w (Yes w) := by
  have c1 := fun (A : Option Addr) (c : Nat) (w : World) (h : Rd w w.heap.size A (bvs [128, 0])) => lebGet_any A 2 c [128, 0] w h rfl (by decide) 0 0 21 lget_128_0
  have C1 := Lib.hid c1
  have c2 := fun (w : World) => lebPutInt_any none 0 0 [] (-1) w (Rd.nil_ _ _ _) rfl (by decide) (by decide) (by decide)
  rw [foldI_m1, lput_1] at c2
  have C2 := Lib.hid c2
  have c3 := fun (A : Option Addr) (c : Nat) (w : World) (h : Rd w w.heap.size A (bvs [1])) => lebGetInt_any A 1 c [1] w h rfl (by decide) 1 1 0 lget_1 (by decide)
  have C3 := Lib.hid c3
  have c4 := fun (w : World) => lebPut_any none 0 0 [] 300 w (Rd.nil_ _ _ _) rfl (by decide) (by decide) (by decide)
  rw [show ((300 : Int).toNat) = 300 from rfl, lput_300] at c4
  have C4 := Lib.hid c4
  clear c1 c2 c3 c4
  go_enter Try.func31, Try.ntmps31
  go_wp2_with (first
    | (go_at_call 40; go_must (refine (C1.out _ _ _ (Rd.new w #[.int .u8 128, .int .u8 0] 5)).mono ?_; rintro e w' ⟨rfl, rfl⟩))
    | (go_at_call 39; go_must (refine (C2.out _).mono ?_; rintro e w2 ⟨v, rfl, hown2, hb2⟩; obtain ⟨A2, k2, rfl, -, -, -⟩ := own_form hown2; have hr2 := Rd.of_own hown2))
    | (go_at_call 42; go_must (refine (C3.out _ _ _ hr2).mono ?_; rintro e w' ⟨rfl, rfl⟩)))
  have hu1 : unfoldI 1 = -1 := by decide
  rw [hu1]
  refine wp_region_grow [⟨19, [], .bytes [172, 2]⟩,
    ⟨20, [0], .is (.string ⟨#[172, 2]⟩)⟩,
    ⟨21, [], .bytes [172, 2]⟩,
    ⟨22, [2], .is (.string ⟨#[172, 2]⟩)⟩,
    ⟨23, [1, 3], .is (.bool true)⟩,
    ⟨24, [4], .is (.bool true)⟩,
    ⟨25, [5], .is (.int .i64 21)⟩,
    ⟨26, [6, 5], .is (.bool true)⟩,
    ⟨27, [5, 7], .is (.bool true)⟩,
    ⟨28, [8], .is (.bool true)⟩,
    ⟨29, [9], .is (.int .i64 (-1))⟩,
    ⟨30, [10, 9], .is (.bool true)⟩,
    ⟨31, [9, 11], .is (.bool true)⟩,
    ⟨32, [12], .is (.bool true)⟩,
    ⟨33, [13], .is (.int .i64 1)⟩,
    ⟨34, [14, 13], .is (.bool true)⟩,
    ⟨35, [13, 15], .is (.bool true)⟩,
    ⟨36, [16], .is (.bool true)⟩,
    ⟨37, [17], .is (.int .i64 0)⟩,
    ⟨38, [18, 17], .is (.bool true)⟩,
    ⟨39, [17, 19], .is (.bool true)⟩,
    ⟨0, [20], .is (.bool true)⟩]
    [(3, .int .i64 21), (4, .int .i64 (-1)), (5, .int .i64 1), (6, .int .i64 0)] (by kernel_rfl) (by kernel_rfl) (by kernel_rfl) (by kernel_rfl) (by kernel_rfl) ⟨rfl, rfl, rfl, rfl, trivial⟩ ?_ ?_
  · repeat' (first | exact OblGAll.nil | refine OblGAll.cons ?_ ?_)
    all_goals (intro ev yi w hB hc hf ho hn; simp only [OutsSay, NeedSay, rowAt, Fact.says, and_true] at ho hn)
    all_goals (try ((simp [OpSays, execOp, Region.wanted, Fact.says, boolOf, go_sem, ho, hn, hc, Below.refl]; done)))
    · exact says_call Try.call33 rfl hf (by simp only [List.map_toArray, List.map_cons, List.map_nil, hc]) ((C4.out w).mono fun _ _ => NewB.says)
    · exact says_str rfl Try.underlying25 Try.underlying5 Try.underlying9 hn.1 ⟨rfl, Below.refl _ _⟩
    · simp [OpSays, execOp, Region.wanted, go_sem, hc]
      exact ⟨⟨_, 2, rfl, by decide, Rd.new w _ _⟩, (Below.refl _ _).alloc (Nat.le_refl _) _⟩
    · exact says_str rfl Try.underlying25 Try.underlying5 Try.underlying9 hn.1 ⟨rfl, Below.refl _ _⟩
  · intro x w4 hb4 hx
    have h21 : x 21 = .bool true := hx 21 (by decide)
    clear hx
    have H21 := Lib.hid h21
    clear h21
    simp only [layAll, List.setIfInBounds_toArray, List.set_cons_succ, List.set_cons_zero]
    go_wp2
    go_ret
    refine ⟨congrArg Ending.returned H21.out, ?_⟩
    exact (((Below.refl _ _).alloc (Nat.le_refl _) _).trans (hb2.mono (by simp))).trans (hb4.mono (by have := hb2.size; simp at this; omega))
end Go.Proofs.Ytgchomeipmjifaa
