/- Contracts of layer 4: Right, of the code and of the reference. -/
import Derived.Test.YtclhgjjehnmncaaDoorProg
import Derived.Test.YtclhgjjehnmncaaDoorMore
import Derived.Test.YtclhgjjehnmncaaDoorWordMath
import Derived.Deep.DeepMust
namespace Go.Proofs.YtclhgjjehnmncaaDoor
open Go.RowKit

theorem wordRight_any (n : Int) (b : Bool) (hb : b = rightB n) (w : World) :
    Calls Tryd.prog 21 #[.int .i64 n] w fun e w' => e = .returned (.bool b) ∧ w = w' := by
  by_cases h : n = 1 ∨ n = 2 ∨ n = 4 ∨ n = 8
  · have hb1 : b = true := by rw [hb]; exact (right_iff n).2 h
    subst hb1
    clear hb
    rcases h with rfl | rfl | rfl | rfl
    all_goals
      go_enter Tryd.func21, Tryd.ntmps21
      go_wp2
      go_ret
      exact ⟨rfl, rfl⟩
  · have hb0 : b = false := by
      rw [hb]
      cases hr : rightB n with
      | false => rfl
      | true => exact absurd ((right_iff n).1 hr) h
    subst hb0
    have h1 : (n == 1) = false := by rw [beq_eq_false_iff_ne]; omega
    have h2 : (n == 2) = false := by rw [beq_eq_false_iff_ne]; omega
    have h4 : (n == 4) = false := by rw [beq_eq_false_iff_ne]; omega
    have h8 : (n == 8) = false := by rw [beq_eq_false_iff_ne]; omega
    clear hb h
    go_enter Tryd.func21, Tryd.ntmps21
    go_wp2
    go_ret
    exact ⟨rfl, rfl⟩
theorem refRight_any (n : Int) (b : Bool) (hb : b = rightB n) (w : World) :
    Calls Tryd.prog 18 #[.int .i64 n] w fun e w' => e = .returned (.bool b) ∧ w = w' := by
  by_cases h : n = 1 ∨ n = 2 ∨ n = 4 ∨ n = 8
  · have hb1 : b = true := by rw [hb]; exact (right_iff n).2 h
    subst hb1
    clear hb
    rcases h with rfl | rfl | rfl | rfl
    all_goals
      go_enter Tryd.func18, Tryd.ntmps18
      go_wp2
      go_ret
      exact ⟨rfl, rfl⟩
  · have hb0 : b = false := by
      rw [hb]
      cases hr : rightB n with
      | false => rfl
      | true => exact absurd ((right_iff n).1 hr) h
    subst hb0
    have h1 : (n == 1) = false := by rw [beq_eq_false_iff_ne]; omega
    have h2 : (n == 2) = false := by rw [beq_eq_false_iff_ne]; omega
    have h4 : (n == 4) = false := by rw [beq_eq_false_iff_ne]; omega
    have h8 : (n == 8) = false := by rw [beq_eq_false_iff_ne]; omega
    clear hb h
    go_enter Tryd.func18, Tryd.ntmps18
    go_wp2
    go_ret
    exact ⟨rfl, rfl⟩
end Go.Proofs.YtclhgjjehnmncaaDoor
