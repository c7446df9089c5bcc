/- Contracts of bit.Reader, its state told by plain functions: Get, Ones, Done. -/
import Derived.Test.YtfdgnhfppginiaaBitD
import Derived.Test.YtfdgnhfppginiaaBitSt
namespace Go.Proofs.Ytfdgnhfppginiaa
open Go.RowKit

theorem rGet_st (g n : Nat) (s : List Bool × Nat) (w : World) (h : RdrIs w g s.1 s.2) (hn : n ≤ 64) :
    Calls Try.prog 93 #[.pointer (some ⟨g, 0, none⟩), .int .i64 (n : Int)] w fun e' w' => e' = .returned (.int .u64 (getV s n : Nat)) ∧ RdrIs w' g (getS s n).1 (getS s n).2 ∧ OnlyT g [121] w w' := by
  obtain ⟨L, e⟩ := s
  unfold getV getS
  simp only at h ⊢
  by_cases he : e = 0
  · subst he
    by_cases hl : n ≤ L.length
    · rw [if_pos ⟨rfl, hl⟩, if_pos rfl, if_pos hl]
      exact rGet_ok n h hn hl
    · rw [if_neg (fun q => hl q.2), if_pos rfl, if_neg hl]
      exact rGet_trunc n h hn (Nat.lt_of_not_le hl)
  · rw [if_neg (fun q => he q.1), if_neg he]
    refine (rGet_err (n : Int) e h he).mono ?_
    rintro e' w' ⟨rfl, rfl⟩
    exact ⟨rfl, h, OnlyT.refl _ _ _⟩
theorem rDone_st (g : Nat) (s : List Bool × Nat) (w : World) (h : RdrIs w g s.1 s.2) (hl : s.1.length ≤ 9000000000000000) :
    Calls Try.prog 48 #[.pointer (some ⟨g, 0, none⟩)] w fun e' w' => e' = .returned (.int .i64 (doneE s : Nat)) ∧ OnlyT g [121] w w' := by
  obtain ⟨L, e⟩ := s
  unfold doneE
  simp only at h hl ⊢
  by_cases he : e = 0
  · subst he
    rw [if_neg (by simp)]
    by_cases h8 : 8 ≤ L.length
    · rw [if_pos h8]
      refine (rDone_more h h8 hl).mono ?_
      rintro e' w' ⟨rfl, rfl⟩
      exact ⟨rfl, (OnlyT.refl _ _ _).drew⟩
    · rw [if_neg h8]
      by_cases ha : L.any id = true
      · rw [if_pos ha]
        obtain ⟨n, R, hL⟩ := any_split L ha
        have hlen := congrArg List.length hL
        simp at hlen
        refine (rDone_pay n R h (by omega) hL).mono ?_
        rintro e' w' ⟨rfl, rfl⟩
        exact ⟨rfl, (OnlyT.refl _ _ _).drew⟩
      · rw [if_neg ha]
        refine (rDone_ok L.length h (by omega) (any_none L ha)).mono ?_
        rintro e' w' ⟨rfl, rfl⟩
        exact ⟨rfl, (OnlyT.refl _ _ _).drew⟩
  · rw [if_pos he]
    refine (rDone_err e h he).mono ?_
    rintro e' w' ⟨rfl, rfl⟩
    exact ⟨rfl, OnlyT.refl _ _ _⟩
theorem rOnes_st (g m : Nat) (s : List Bool × Nat) (w : World) (h : RdrIs w g s.1 s.2) (hm : m ≤ 256) :
    Calls Try.prog 103 #[.pointer (some ⟨g, 0, none⟩), .int .i64 (m : Int)] w fun e' w' => e' = .returned (.int .i64 (onesV s m : Nat)) ∧ RdrIs w' g (onesS s m).1 (onesS s m).2 ∧ OnlyT g [121] w w' := by
  obtain ⟨L, e⟩ := s
  unfold onesV onesS
  simp only at h ⊢
  by_cases he : e = 0
  · subst he
    rw [if_pos rfl, if_pos rfl]
    rcases onesF_ways m L with ⟨R, h1, h2⟩ | ⟨n, R, h0, h1, h2⟩ | ⟨n, h0, h1, h2⟩
    · rw [h2]; exact rOnes_full m R h hm h1
    · rw [h2]; exact rOnes_stop m n R h hm h0 h1
    · rw [h2]; exact rOnes_trunc m n h hm h0 h1
  · rw [if_neg he, if_neg he]
    refine (rOnes_err (m : Int) e h he).mono ?_
    rintro e' w' ⟨rfl, rfl⟩
    exact ⟨rfl, h, OnlyT.refl _ _ _⟩
end Go.Proofs.Ytfdgnhfppginiaa
