/- Layer 23: the program's small functions. -/
import Derived.Test.YtnghcfogigglmaaCtxMath
import Derived.Test.YtnghcfogigglmaaInts
namespace Go.Proofs.Ytnghcfogigglmaa
open Go.RowKit Go.Sort

theorem ctxRight_yes (n : Int) (w : World) (h : 1 ≤ n ∧ n ≤ 16) : Calls Try.prog 30 #[.int .i64 n] w fun e w' => e = .returned (.bool true) ∧ w' = w := by
  obtain ⟨h1, h2⟩ := h
  go_enter Try.func30, Try.ntmps30
  go_wp2
  go_ret
  exact ⟨rfl, rfl⟩
theorem ctxRight_no (n : Int) (w : World) (h : ¬ (1 ≤ n ∧ n ≤ 16)) : Calls Try.prog 30 #[.int .i64 n] w fun e w' => e = .returned (.bool false) ∧ w' = w := by
  by_cases h1 : 1 ≤ n
  · have h2 : ¬ (n ≤ 16) := by omega
    clear h
    go_enter Try.func30, Try.ntmps30
    go_wp2
    go_ret
    exact ⟨rfl, rfl⟩
  · clear h
    go_enter Try.func30, Try.ntmps30
    go_wp2
    go_ret
    exact ⟨rfl, rfl⟩

theorem ctxPlace_bad (key n : Int) (w : World) (h : ¬ (1 ≤ n ∧ n ≤ 16)) : Calls Try.prog 44 #[.int .u32 key, .int .i64 n] w fun e w' => e = .returned (.int .i64 0) ∧ w' = w := by
  have CR := Lib.hid (fun w => ctxRight_no n w h)
  clear h
  go_enter Try.func44, Try.ntmps44
  go_wp2_with fail
  refine (CR.out _).mono ?_
  rintro e w' ⟨rfl, hw⟩
  obtain rfl : _ = w' := hw.symm
  go_wp2
  go_ret
  exact ⟨rfl, rfl⟩
theorem place_val (key : Nat) {bits : Nat} (h1 : 1 ≤ bits) (h2 : bits ≤ 16) : wrap64 (2654435761 * (key : Int) % 4294967296 / 2 ^ (32 - bits)) = ((placeC key bits : Nat) : Int) := by
  have e : ((placeC key bits : Nat) : Int) = 2654435761 * (key : Int) % 4294967296 / 2 ^ (32 - bits) := by
    unfold placeC
    rw [Int.natCast_ediv, Int.natCast_emod, Int.natCast_mul, Int.natCast_pow, Int.mul_comm]
    rfl
  have hl := placeC_lt key (show bits ≤ 32 by omega)
  have h3 : 2 ^ bits ≤ 2 ^ 16 := Nat.pow_le_pow_right (by decide) h2
  rw [← e]
  exact IntWalk.wrap64_in _ (by omega)
theorem ctxPlace_any (key bits : Nat) (w : World) (h : 1 ≤ bits ∧ bits ≤ 16) : Calls Try.prog 44 #[.int .u32 (key : Int), .int .i64 (bits : Int)] w fun e w' => e = .returned (.int .i64 (placeC key bits : Nat)) ∧ w' = w := by
  have CR := Lib.hid (fun w => ctxRight_yes (bits : Int) w (by omega))
  obtain ⟨h1, h2⟩ := h
  have a1 : (bits : Int) ≤ 16 := by omega
  go_enter Try.func44, Try.ntmps44
  go_wp2_with fail
  refine (CR.out _).mono ?_
  rintro e w' ⟨rfl, hw⟩
  obtain rfl : _ = w' := hw.symm
  go_wp2
  go_ret
  exact ⟨ret_int (place_val key h1 h2), rfl⟩
theorem ctxAfter_any (p : Nat) (bit : Int) (w : World) (h : ChC p) : Calls Try.prog 37 #[.int .u32 (p : Int), .int .i64 bit] w fun e w' => e = .returned (.int .u32 (rawC p bit : Nat)) ∧ w' = w := by
  obtain ⟨h1, h2⟩ := h
  unfold rawC
  by_cases hb : bit = 0
  · subst hb
    rw [if_pos rfl]
    go_enter Try.func37, Try.ntmps37
    go_wp2
    go_ret
    exact ⟨ret_int (by omega), rfl⟩
  · rw [if_neg hb]
    have hbb : (bit == 0) = false := by simp [hb]
    go_enter Try.func37, Try.ntmps37
    go_wp2
    go_ret
    exact ⟨ret_int (by omega), rfl⟩
theorem ctxHeld_any (p : Nat) (w : World) : Calls Try.prog 36 #[.int .u32 (p : Int), .int .u32 32, .int .u32 65504] w fun e w' => e = .returned (.int .u32 (heldC p : Nat)) ∧ w' = w := by
  go_enter Try.func36, Try.ntmps36
  go_wp2
  go_ret
  exact ⟨ret_int (by unfold heldC; omega), rfl⟩
end Go.Proofs.Ytnghcfogigglmaa
