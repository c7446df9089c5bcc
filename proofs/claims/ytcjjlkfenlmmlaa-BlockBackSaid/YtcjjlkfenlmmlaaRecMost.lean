/- Layer 11: how many bytes become of so many at most. -/
import Derived.Test.YtcjjlkfenlmmlaaProg
import Derived.Test.YtcjjlkfenlmmlaaBase
namespace Go.Proofs.Ytcjjlkfenlmmlaa
open Go.RowKit

def sizedB (n : Int) : Bool := decide (0 ≤ n) && decide (n ≤ 16777216)
def mostR (n : Int) : Int := if sizedB n = true then 3 * n + 64 else 0
theorem ret_bool {a b : Bool} (h : a = b) : Ending.returned (.bool a) = .returned (.bool b) := by rw [h]
set_option maxHeartbeats 1000000 in
theorem sized_any (n : Int) (w : World) : Calls Try.prog 39 #[.int .i64 n] w fun e w' => e = .returned (.bool (sizedB n)) ∧ w = w' := by
  by_cases h0 : 0 ≤ n
  · by_cases h1 : n ≤ 16777216
    · have hz : sizedB n = true := by simp [sizedB, h0, h1]
      rw [hz]
      clear hz
      go_enter Try.func39, Try.ntmps39
      go_wp2
      go_ret
      exact ⟨rfl, rfl⟩
    · have hz : sizedB n = false := by simp [sizedB, h1]
      rw [hz]
      clear hz
      go_enter Try.func39, Try.ntmps39
      go_wp2
      go_ret
      exact ⟨rfl, rfl⟩
  · have hz : sizedB n = false := by simp [sizedB, h0]
    rw [hz]
    clear hz
    go_enter Try.func39, Try.ntmps39
    go_wp2
    go_ret
    exact ⟨rfl, rfl⟩
set_option maxHeartbeats 1000000 in
theorem recMost_any (n : Int) (w : World) : Calls Try.prog 31 #[.int .i64 n] w fun e w' => e = .returned (.int .i64 (mostR n)) ∧ w = w' := by
  have C1 := Lib.hid (fun (w' : World) => sized_any n w')
  unfold mostR
  cases hz : sizedB n with
  | true =>
    rw [hz] at C1
    have h0 : 0 ≤ n ∧ n ≤ 16777216 := by simpa [sizedB] using hz
    obtain ⟨h0, h1⟩ := h0
    rw [if_pos rfl]
    clear hz
    go_enter Try.func31, Try.ntmps31
    go_wp2_with fail
    refine (C1.out _).mono ?_
    rintro e w' ⟨rfl, rfl⟩
    go_wp2
    go_ret
    exact ⟨ret_int (by omega), rfl⟩
  | false =>
    rw [hz] at C1
    rw [if_neg (by decide)]
    clear hz
    go_enter Try.func31, Try.ntmps31
    go_wp2_with fail
    refine (C1.out _).mono ?_
    rintro e w' ⟨rfl, rfl⟩
    go_wp2
    go_ret
    exact ⟨rfl, rfl⟩
end Go.Proofs.Ytcjjlkfenlmmlaa
