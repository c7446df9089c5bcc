/- What a sticky reader tells, as plain functions of its bits and its error. -/
import Derived.Test.YtjncmfoommlldaaBitMath
namespace Go.Proofs.Ytjncmfoommlldaa

/-- What is told of what is left, when all words have been taken. -/
def doneE (s : List Bool × Nat) : Nat := if s.2 ≠ 0 then s.2 else if 8 ≤ s.1.length then 22 else if s.1.any id = true then 16 else 0
theorem any_split : ∀ L : List Bool, L.any id = true → ∃ n R, L = List.replicate n false ++ true :: R
  | [], h => by cases h
  | true :: t, _ => ⟨0, t, rfl⟩
  | false :: t, h => by
    obtain ⟨n, R, e⟩ := any_split t (by simpa using h)
    exact ⟨n + 1, R, by rw [e]; rfl⟩
theorem any_none : ∀ L : List Bool, ¬ L.any id = true → L = List.replicate L.length false
  | [], _ => rfl
  | true :: t, h => absurd (by simp) h
  | false :: t, h => by
    have := any_none t (by simpa using h)
    rw [List.length_cons, List.replicate_succ, ← this]
/-- How many of the next bits are ones, at most so many, and what is left. -/
def onesF : Nat → List Bool → Option (Nat × List Bool)
  | 0, L => some (0, L)
  | _ + 1, [] => none
  | _ + 1, false :: L => some (0, L)
  | m + 1, true :: L => (onesF m L).map fun p => (p.1 + 1, p.2)
def onesV (s : List Bool × Nat) (m : Nat) : Nat := if s.2 = 0 then ((onesF m s.1).map (·.1)).getD 0 else 0
def onesS (s : List Bool × Nat) (m : Nat) : List Bool × Nat := if s.2 = 0 then ((onesF m s.1).map fun p => (p.2, 0)).getD (s.1, 11) else s
theorem onesF_ones : ∀ (n m : Nat) (R : List Bool), n ≤ m → onesF m (onesOf n m ++ R) = some (n, R) := by
  intro n
  induction n with
  | zero =>
    intro m R _
    cases m with
    | zero => simp [onesOf, onesF]
    | succ m => simp [onesOf, onesF]
  | succ n ih =>
    intro m R h
    obtain ⟨m, rfl⟩ : ∃ k, m = k + 1 := ⟨m - 1, by omega⟩
    have e : onesOf (n + 1) (m + 1) = true :: onesOf n m := by
      unfold onesOf
      rw [List.replicate_succ]
      by_cases h : n < m
      · rw [if_pos h, if_pos (by omega)]; rfl
      · rw [if_neg h, if_neg (by omega)]; rfl
    rw [e, List.cons_append, onesF, ih m R (by omega)]
    rfl
theorem onesV_ones {n m : Nat} (R : List Bool) (h : n ≤ m) : onesV (onesOf n m ++ R, 0) m = n ∧ onesS (onesOf n m ++ R, 0) m = (R, 0) := by
  unfold onesV onesS
  simp only [if_true, onesF_ones n m R h]
  exact ⟨rfl, rfl⟩
/-- The three ways of Ones. -/
theorem onesF_ways : ∀ (m : Nat) (L : List Bool), (∃ R, L = List.replicate m true ++ R ∧ onesF m L = some (m, R)) ∨ (∃ n R, n < m ∧ L = List.replicate n true ++ false :: R ∧ onesF m L = some (n, R)) ∨ (∃ n, n < m ∧ L = List.replicate n true ∧ onesF m L = none)
  | 0, L => .inl ⟨L, rfl, rfl⟩
  | m + 1, [] => .inr (.inr ⟨0, Nat.succ_pos _, rfl, rfl⟩)
  | m + 1, false :: L => .inr (.inl ⟨0, L, Nat.succ_pos _, rfl, rfl⟩)
  | m + 1, true :: L => by
    rcases onesF_ways m L with ⟨R, h1, h2⟩ | ⟨n, R, h0, h1, h2⟩ | ⟨n, h0, h1, h2⟩
    · exact .inl ⟨R, by rw [h1, List.replicate_succ]; rfl, by rw [onesF, h2]; rfl⟩
    · exact .inr (.inl ⟨n + 1, R, by omega, by rw [h1, List.replicate_succ]; rfl, by rw [onesF, h2]; rfl⟩)
    · exact .inr (.inr ⟨n + 1, by omega, by rw [h1, List.replicate_succ], by rw [onesF, h2]; rfl⟩)
end Go.Proofs.Ytjncmfoommlldaa
