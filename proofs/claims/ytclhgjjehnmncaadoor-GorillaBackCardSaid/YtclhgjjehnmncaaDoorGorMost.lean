/- Contracts of gorilla.Most and its reference; Pack by a width that is not right. -/
import Derived.Test.YtclhgjjehnmncaaDoorGorPack
namespace Go.Proofs.YtclhgjjehnmncaaDoor
open Go.RowKit

/-- How many bytes words have at most. -/
def mostG (n W : Int) : Int := if rightB W = true ∧ 1 ≤ n ∧ n ≤ 1099511627776 then (8 * W + (n - 1) * (8 * W + 14) + 7) / 8 else 0
theorem mostG_not {n W : Int} (h : rightB W = false ∨ n < 1 ∨ 1099511627776 < n) : mostG n W = 0 := by
  unfold mostG
  rw [if_neg]
  rintro ⟨h1, h2, h3⟩
  rcases h with h | h | h
  · rw [h1] at h; cases h
  · omega
  · omega
set_option maxHeartbeats 1000000 in
theorem gMost_any (n W : Int) (w : World) : Calls Tryd.prog 9 #[.int .i64 n, .int .i64 W] w fun e w' => e = .returned (.int .i64 (mostG n W)) ∧ w = w' := by
  cases hR : rightB W with
  | false =>
    rw [mostG_not (.inl hR)]
    have C := Lib.hid (wordRight_any W false hR.symm)
    clear hR
    go_enter Tryd.func9, Tryd.ntmps9
    go_wp2_with (go_at_call 21; go_must (refine (C.out _).mono ?_; rintro e w' ⟨rfl, rfl⟩))
    go_ret
    exact ⟨rfl, rfl⟩
  | true =>
    have C := Lib.hid (wordRight_any W true hR.symm)
    by_cases h1 : n < 1
    · rw [mostG_not (.inr (.inl h1))]
      clear hR
      go_enter Tryd.func9, Tryd.ntmps9
      go_wp2_with (go_at_call 21; go_must (refine (C.out _).mono ?_; rintro e w' ⟨rfl, rfl⟩))
      go_ret
      exact ⟨rfl, rfl⟩
    · by_cases h2 : 1099511627776 < n
      · rw [mostG_not (.inr (.inr h2))]
        clear hR
        go_enter Tryd.func9, Tryd.ntmps9
        go_wp2_with (go_at_call 21; go_must (refine (C.out _).mono ?_; rintro e w' ⟨rfl, rfl⟩))
        go_ret
        exact ⟨rfl, rfl⟩
      · have hm : mostG n W = (8 * W + (n - 1) * (8 * W + 14) + 7) / 8 := by unfold mostG; rw [if_pos ⟨hR, by omega, by omega⟩]
        rw [hm]
        obtain ⟨V, rfl, hV⟩ := isW_of hR
        clear hR hm
        rcases hV with rfl | rfl | rfl | rfl
        all_goals
          go_enter Tryd.func9, Tryd.ntmps9
          go_wp2_with (go_at_call 21; go_must (refine (C.out _).mono ?_; rintro e w' ⟨rfl, rfl⟩))
          go_ret
          exact ⟨ret_int (by omega), rfl⟩
set_option maxHeartbeats 1000000 in
theorem rMost_any (n W : Int) (w : World) : Calls Tryd.prog 10 #[.int .i64 n, .int .i64 W] w fun e w' => e = .returned (.int .i64 (mostG n W)) ∧ w = w' := by
  cases hR : rightB W with
  | false =>
    rw [mostG_not (.inl hR)]
    have C := Lib.hid (refRight_any W false hR.symm)
    clear hR
    go_enter Tryd.func10, Tryd.ntmps10
    go_wp2_with (go_at_call 18; go_must (refine (C.out _).mono ?_; rintro e w' ⟨rfl, rfl⟩))
    go_ret
    exact ⟨rfl, rfl⟩
  | true =>
    have C := Lib.hid (refRight_any W true hR.symm)
    by_cases h1 : n < 1
    · rw [mostG_not (.inr (.inl h1))]
      clear hR
      go_enter Tryd.func10, Tryd.ntmps10
      go_wp2_with (go_at_call 18; go_must (refine (C.out _).mono ?_; rintro e w' ⟨rfl, rfl⟩))
      go_ret
      exact ⟨rfl, rfl⟩
    · by_cases h2 : 1099511627776 < n
      · rw [mostG_not (.inr (.inr h2))]
        clear hR
        go_enter Tryd.func10, Tryd.ntmps10
        go_wp2_with (go_at_call 18; go_must (refine (C.out _).mono ?_; rintro e w' ⟨rfl, rfl⟩))
        go_ret
        exact ⟨rfl, rfl⟩
      · have hm : mostG n W = (8 * W + (n - 1) * (8 * W + 14) + 7) / 8 := by unfold mostG; rw [if_pos ⟨hR, by omega, by omega⟩]
        rw [hm]
        obtain ⟨V, rfl, hV⟩ := isW_of hR
        clear hR hm
        rcases hV with rfl | rfl | rfl | rfl
        all_goals
          go_enter Tryd.func10, Tryd.ntmps10
          go_wp2_with (go_at_call 18; go_must (refine (C.out _).mono ?_; rintro e w' ⟨rfl, rfl⟩))
          go_ret
          exact ⟨ret_int (by omega), rfl⟩
end Go.Proofs.YtclhgjjehnmncaaDoor
