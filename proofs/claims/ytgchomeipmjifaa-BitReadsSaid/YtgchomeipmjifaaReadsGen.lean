/- The two readers side by side. -/
import Derived.Test.YtgchomeipmjifaaRefRd2
import Derived.Test.YtgchomeipmjifaaSteps
import Derived.Test.YtgchomeipmjifaaBitBack
namespace Go.Proofs.Ytgchomeipmjifaa
open Go.RowKit

/-- Of the two readers, asked by functions f and f', as this says: the same value, and the same is left. -/
def Pair (f f' : FuncId) (g g' : Nat) (n : Int) (k : IntKind) (L : List Bool) (e : Nat) (v : Nat) (L' : List Bool) (e' : Nat) : Prop :=
  (∀ W, RdrIs W g L e → Calls Try.prog f #[.pointer (some ⟨g, 0, none⟩), .int .i64 n] W fun x W' => x = .returned (.int k v) ∧ RdrIs W' g L' e' ∧ OnlyT g [67] W W') ∧
  (∀ W, RfrIs W g' L e → Calls Try.prog f' #[.pointer (some ⟨g', 0, none⟩), .int .i64 n] W fun x W' => x = .returned (.int k v) ∧ RfrIs W' g' L' e' ∧ OnlyT g' [47] W W')

theorem pairGet (g g' : Nat) (n : Int) (L : List Bool) (e : Nat) : ∃ v L' e', Pair 22 23 g g' n .u64 L e v L' e' := by
  by_cases he : e = 0
  · subst he
    by_cases hn : n < 0 ∨ 64 < n
    · exact ⟨0, L, 2, fun W h => rGet_arg n h hn, fun W h => rfGet_arg n h hn⟩
    · obtain ⟨N, rfl⟩ := Int.eq_ofNat_of_zero_le (show 0 ≤ n by omega)
      have h64 : N ≤ 64 := by omega
      by_cases hL : L.length < N
      · exact ⟨0, L, 11, fun W h => rGet_trunc N h h64 hL, fun W h => rfGet_trunc N h h64 hL⟩
      · exact ⟨valOf (L.take N), L.drop N, 0, fun W h => rGet_ok N h h64 (by omega), fun W h => rfGet_ok N h h64 (by omega)⟩
  · refine ⟨0, L, e, fun W h => (rGet_err n e h he).mono ?_, fun W h => (rfGet_err n e h he).mono ?_⟩
    · rintro x W' ⟨rfl, rfl⟩; exact ⟨rfl, h, OnlyT.refl _ _ _⟩
    · rintro x W' ⟨rfl, rfl⟩; exact ⟨rfl, h, OnlyT.refl _ _ _⟩
theorem pairOnes (g g' : Nat) (n : Int) (L : List Bool) (e : Nat) : ∃ v L' e', Pair 24 25 g g' n .i64 L e v L' e' := by
  by_cases he : e = 0
  · subst he
    by_cases hn : n < 0 ∨ 256 < n
    · exact ⟨0, L, 2, fun W h => rOnes_arg n h hn, fun W h => rfOnes_arg n h hn⟩
    · obtain ⟨N, rfl⟩ := Int.eq_ofNat_of_zero_le (show 0 ≤ n by omega)
      have h64 : N ≤ 256 := by omega
      rcases ones_cases N L with ⟨R, hR⟩ | ⟨k, hk, R, hR⟩ | ⟨k, hk, hR⟩
      · exact ⟨N, R, 0, fun W h => rOnes_full N R h h64 hR, fun W h => rfOnes_full N R h h64 hR⟩
      · exact ⟨k, R, 0, fun W h => rOnes_stop N k R h h64 hk hR, fun W h => rfOnes_stop N k R h h64 hk hR⟩
      · exact ⟨0, L, 11, fun W h => rOnes_trunc N k h h64 hk hR, fun W h => rfOnes_trunc N k h h64 hk hR⟩
  · refine ⟨0, L, e, fun W h => (rOnes_err n e h he).mono ?_, fun W h => (rfOnes_err n e h he).mono ?_⟩
    · rintro x W' ⟨rfl, rfl⟩; exact ⟨rfl, h, OnlyT.refl _ _ _⟩
    · rintro x W' ⟨rfl, rfl⟩; exact ⟨rfl, h, OnlyT.refl _ _ _⟩

/-- What both say of what is left. -/
def Same (f f' : FuncId) (g g' : Nat) (L : List Bool) (e : Nat) (v : Nat) : Prop :=
  (∀ W, RdrIs W g L e → Calls Try.prog f #[.pointer (some ⟨g, 0, none⟩)] W fun x W' => x = .returned (.int .i64 v) ∧ Below W.heap.size W W') ∧
  (∀ W, RfrIs W g' L e → Calls Try.prog f' #[.pointer (some ⟨g', 0, none⟩)] W fun x W' => x = .returned (.int .i64 v) ∧ Below W.heap.size W W')
theorem sameLeft (g g' : Nat) (L : List Bool) (e : Nat) : ∃ v, Same 27 28 g g' L e v := by
  by_cases he : e = 0
  · subst he
    refine ⟨L.length, fun W h => (rLeft_is h).mono ?_, fun W h => (rfLeft_ok h).mono ?_⟩
    · rintro x W' ⟨rfl, rfl⟩; exact ⟨rfl, (Below.refl _ _).drew⟩
    · rintro x W' ⟨rfl, rfl⟩; exact ⟨rfl, Below.refl _ _⟩
  · refine ⟨0, fun W h => (rLeft_er e h he).mono ?_, fun W h => (rfLeft_err e h he).mono ?_⟩
    · rintro x W' ⟨rfl, rfl⟩; exact ⟨rfl, Below.refl _ _⟩
    · rintro x W' ⟨rfl, rfl⟩; exact ⟨rfl, Below.refl _ _⟩
theorem sameDone (g g' : Nat) (L : List Bool) (e : Nat) (hl : L.length ≤ 900000000) : ∃ v, Same 29 30 g g' L e v := by
  by_cases he : e = 0
  · subst he
    by_cases h8 : 8 ≤ L.length
    · refine ⟨22, fun W h => (rDone_more h h8 (by omega)).mono ?_, fun W h => (rfDone_more h h8).mono ?_⟩
      · rintro x W' ⟨rfl, rfl⟩; exact ⟨rfl, (Below.refl _ _).drew⟩
      · rintro x W' ⟨rfl, rfl⟩; exact ⟨rfl, Below.refl _ _⟩
    · rcases noughts_cases L with hL | ⟨n, R, hL⟩
      · refine ⟨0, fun W h => (rDone_ok L.length h (by omega) hL).mono ?_, fun W h => (rfDone_ok L.length h (by omega) hL).mono ?_⟩
        · rintro x W' ⟨rfl, rfl⟩; exact ⟨rfl, (Below.refl _ _).drew⟩
        · rintro x W' ⟨rfl, rfl⟩; exact ⟨rfl, Below.refl _ _⟩
      · have hn : n + 1 + R.length < 8 := by rw [hL] at h8; simp at h8; omega
        refine ⟨16, fun W h => (rDone_pay n R h hn hL).mono ?_, fun W h => (rfDone_pay n R h hn hL).mono ?_⟩
        · rintro x W' ⟨rfl, rfl⟩; exact ⟨rfl, (Below.refl _ _).drew⟩
        · rintro x W' ⟨rfl, rfl⟩; exact ⟨rfl, Below.refl _ _⟩
  · refine ⟨e, fun W h => (rDone_err e h he).mono ?_, fun W h => (rfDone_err e h he).mono ?_⟩
    · rintro x W' ⟨rfl, rfl⟩; exact ⟨rfl, Below.refl _ _⟩
    · rintro x W' ⟨rfl, rfl⟩; exact ⟨rfl, Below.refl _ _⟩
end Go.Proofs.Ytgchomeipmjifaa
