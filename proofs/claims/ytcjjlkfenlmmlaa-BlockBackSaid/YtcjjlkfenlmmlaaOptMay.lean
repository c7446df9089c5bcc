/- Layer 28: the reference: May. -/
import Derived.Test.YtcjjlkfenlmmlaaWordFn
namespace Go.Proofs.Ytcjjlkfenlmmlaa
open Go.RowKit

/-- Options, as a value. -/
def optV (b w r m : Int) : Value := .agg #[.int .i64 b, .int .i64 w, .int .i64 r, .int .i64 m]
def mayO (b w r m : Int) : Bool := decide (1 ≤ b) && decide (b ≤ 16777216) && rightB w && decide (0 ≤ r) && decide (r ≤ 10) && decide (0 ≤ m) && decide (m ≤ 6)
theorem ret_b {a b : Bool} (h : a = b) : Ending.returned (.bool a) = .returned (.bool b) := by rw [h]
set_option maxRecDepth 100000 in
set_option maxHeartbeats 2000000 in
theorem refMay_any (b w r m : Int) (W : World) : Calls Try.prog 7 #[optV b w r m] W fun e w' => e = .returned (.bool (mayO b w r m)) ∧ Below W.heap.size W w' := by
  unfold optV mayO
  cases hR : rightB w with
  | false =>
    have CR := Lib.hid (refRight_any w false hR.symm)
    clear hR
    go_enter Try.func7, Try.ntmps7
    go_wp2_with (go_at_call 19; go_must (refine (CR.out _).mono ?_; rintro e w' ⟨rfl, hw⟩; subst hw))
    all_goals
      go_ret
      exact ⟨ret_b (by simp), (Below.refl _ _).alloc (Nat.le_refl _) _⟩
  | true =>
    have CR := Lib.hid (refRight_any w true hR.symm)
    clear hR
    go_enter Try.func7, Try.ntmps7
    go_wp2_with (go_at_call 19; go_must (refine (CR.out _).mono ?_; rintro e w' ⟨rfl, hw⟩; subst hw))
    all_goals
      go_ret
      refine ⟨ret_b ?_, (Below.refl _ _).alloc (Nat.le_refl _) _⟩
      first
        | (simp; done)
        | (simp; omega)
        | (simp; intros; omega)
theorem size_opt : (Try.prog.info? 26).map (·.size) = some 4 := by kernel_rfl
theorem mayO_nat {b u r m : Int} (h : mayO b u r m = true) : ∃ b' u' r' m' : Nat, b = (b' : Int) ∧ u = (u' : Int) ∧ r = (r' : Int) ∧ m = (m' : Int) ∧ 1 ≤ b' ∧ b' ≤ 16777216 ∧ IsW u' ∧ r' ≤ 10 ∧ m' ≤ 6 := by
  unfold mayO at h
  simp only [Bool.and_eq_true, decide_eq_true_eq] at h
  obtain ⟨⟨⟨⟨⟨⟨h1, h2⟩, h3⟩, h4⟩, h5⟩, h6⟩, h7⟩ := h
  obtain ⟨V, rfl, hV⟩ := isW_of h3
  exact ⟨b.toNat, V, r.toNat, m.toNat, by omega, rfl, by omega, by omega, by omega, by omega, hV, by omega, by omega⟩
end Go.Proofs.Ytcjjlkfenlmmlaa
