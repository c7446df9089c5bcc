/- Two ways to take words off bits that tell the same: one stops at once where an error stands, the other at the next round's head, or at the end. -/
import Derived.Test.YtcenbaajojdjlaaGreatDoorGorTak3
namespace Go.Proofs.YtcenbaajojdjlaaGreatDoor
open Go.RowKit

/-- What is told in the end: the words, if what is left may be left. -/
def accR (o : Option (List Nat × (List Bool × Nat))) : Option (List Nat) :=
  match o with
  | none => none
  | some (X, s) => if doneE s = 0 then some X else none
def fromF (t : Nat × Nat × Nat) (s : List Bool × Nat) : Option (Nat × (Nat × Nat × Nat) × (List Bool × Nat)) :=
  if t.2.1 = 0 then none else some (getV s t.2.1 * 2 ^ t.2.2, t, getS s t.2.1)
def takeF (W : Nat) (t : Nat × Nat × Nat) (s : List Bool × Nat) : Option (Nat × (Nat × Nat × Nat) × (List Bool × Nat)) :=
  if getV s 1 = 0 then some (0, t, getS s 1)
  else if getV (getS s 1) 1 = 0 then fromF t (getS (getS s 1) 1)
  else fromF (toldT W (getS (getS s 1) 1)) (toldS (getS (getS s 1) 1))
def loopF (W : Nat) : Nat → (Nat × Nat × Nat) → (List Bool × Nat) → Option (List Nat × (List Bool × Nat))
  | 0, _, s => some ([], s)
  | k + 1, t, s => if s.2 ≠ 0 then none else
    match takeF W t s with
    | none => none
    | some (x, t1, s1) => (loopF W k t1 s1).map (fun q => (x :: q.1, q.2))
theorem takeF_takeR (W : Nat) (t : Nat × Nat × Nat) (s : List Bool × Nat) :
    (takeF W t s = none ∧ (takeR W t s).2.2.1 = false) ∨ (takeF W t s = some ((takeR W t s).1, (takeR W t s).2.1, (takeR W t s).2.2.2) ∧ (takeR W t s).2.2.1 = decide ((takeR W t s).2.2.2.2 = 0)) := by
  have key : ∀ (u : Nat × Nat × Nat) (q : List Bool × Nat), (fromF u q = none ∧ (fromT u q).2.2.1 = false) ∨ (fromF u q = some ((fromT u q).1, (fromT u q).2.1, (fromT u q).2.2.2) ∧ (fromT u q).2.2.1 = decide ((fromT u q).2.2.2.2 = 0)) := by
    intro u q
    unfold fromF fromT
    by_cases h : u.2.1 = 0
    · rw [if_pos h, if_pos h]
      exact .inl ⟨rfl, rfl⟩
    · rw [if_neg h, if_neg h]
      exact .inr ⟨rfl, rfl⟩
  unfold takeF takeR
  by_cases h1 : getV s 1 = 0
  · rw [if_pos h1, if_pos h1]
    exact .inr ⟨rfl, rfl⟩
  · rw [if_neg h1, if_neg h1]
    by_cases h2 : getV (getS s 1) 1 = 0
    · rw [if_pos h2, if_pos h2]
      exact key _ _
    · rw [if_neg h2, if_neg h2]
      exact key _ _
theorem doneE_err {s : List Bool × Nat} (h : s.2 ≠ 0) : doneE s ≠ 0 := by
  unfold doneE
  rw [if_pos h]
  exact h
theorem getS_err {s : List Bool × Nat} (h : s.2 ≠ 0) (n : Nat) : getS s n = s := by
  unfold getS
  rw [if_neg h]
theorem getV_err {s : List Bool × Nat} (h : s.2 ≠ 0) (n : Nat) : getV s n = 0 := by
  unfold getV
  rw [if_neg (fun q => h q.1)]
theorem takeR_err {W : Nat} {t : Nat × Nat × Nat} {s : List Bool × Nat} (h : s.2 ≠ 0) : (takeR W t s).2.2.1 = false := by
  unfold takeR
  rw [if_pos (getV_err h 1), getS_err h]
  simpa using h
theorem accR_map (x : Nat) (o : Option (List Nat × (List Bool × Nat))) : accR (o.map (fun q => (x :: q.1, q.2))) = (accR o).map (x :: ·) := by
  cases o with
  | none => rfl
  | some q =>
    obtain ⟨X, s⟩ := q
    simp only [Option.map_some, accR]
    split <;> rfl
theorem loopF_err {W : Nat} (k : Nat) (t : Nat × Nat × Nat) {s : List Bool × Nat} (h : s.2 ≠ 0) : accR (loopF W k t s) = none := by
  cases k with
  | zero =>
    rw [loopF]
    unfold accR
    simp only
    rw [if_neg (doneE_err h)]
  | succ k => rw [loopF, if_pos h]; rfl
theorem loopR_err {W : Nat} (k : Nat) (t : Nat × Nat × Nat) {s : List Bool × Nat} (h : s.2 ≠ 0) : accR (loopR W k t s) = none := by
  cases k with
  | zero =>
    rw [loopR]
    unfold accR
    simp only
    rw [if_neg (doneE_err h)]
  | succ k =>
    rw [loopR, takeR_err h]
    rfl
theorem loopF_loopR (W : Nat) : ∀ (k : Nat) (t : Nat × Nat × Nat) (s : List Bool × Nat), accR (loopF W k t s) = accR (loopR W k t s)
  | 0, t, s => by rw [loopF, loopR]
  | k + 1, t, s => by
    by_cases h : s.2 ≠ 0
    · rw [loopF_err _ _ h, loopR_err _ _ h]
    · rw [loopF, loopR, if_neg h]
      rcases takeF_takeR W t s with ⟨h1, h2⟩ | ⟨h1, h2⟩
      · rw [h1, h2]
        rfl
      · rw [h1, h2]
        simp only
        rw [accR_map]
        by_cases h3 : (takeR W t s).2.2.2.2 = 0
        · rw [if_pos (by simpa using h3), accR_map, loopF_loopR W k]
        · rw [if_neg (by simpa using h3), loopF_err _ _ h3]
          rfl
/-- A number that is taken without an error takes its bits. -/
theorem getS_ok {s : List Bool × Nat} {n : Nat} (h : (getS s n).2 = 0) : s.2 = 0 ∧ (getS s n).1.length + n = s.1.length := by
  by_cases h0 : s.2 = 0
  · refine ⟨h0, ?_⟩
    unfold getS at h ⊢
    rw [if_pos h0] at h ⊢
    by_cases hl : n ≤ s.1.length
    · rw [if_pos hl]
      simp
      omega
    · rw [if_neg hl] at h
      cases h
  · rw [getS_err h0] at h
    exact absurd h h0
theorem takeR_less {W : Nat} {t : Nat × Nat × Nat} {s : List Bool × Nat} (h : (takeR W t s).2.2.1 = true) : (takeR W t s).2.2.2.1.length + 1 ≤ s.1.length := by
  have h0 : s.2 = 0 := by
    by_cases q : s.2 = 0
    · exact q
    · rw [takeR_err q] at h
      cases h
  by_cases hl : 1 ≤ s.1.length
  · have e1 : (getS s 1).1.length + 1 = s.1.length := by
      unfold getS
      rw [if_pos h0, if_pos hl]
      simp
      omega
    have key : ∀ (u : Nat × Nat × Nat) (q : List Bool × Nat), q.1.length + 1 ≤ s.1.length → (fromT u q).2.2.2.1.length + 1 ≤ s.1.length := by
      intro u q hq
      unfold fromT
      split
      · exact hq
      · exact Nat.le_trans (Nat.add_le_add_right (getS_len _ _) 1) hq
    have e2 : (getS (getS s 1) 1).1.length + 1 ≤ s.1.length := by have := getS_len (getS s 1) 1; omega
    unfold takeR
    split
    · exact Nat.le_of_eq e1
    · split
      · exact key _ _ e2
      · exact key _ _ (Nat.le_trans (Nat.add_le_add_right (Nat.le_trans (getS_len _ _) (getS_len _ _)) 1) e2)
  · exfalso
    have e3 : getV s 1 = 0 := by unfold getV; rw [if_neg (fun q => hl q.2)]
    have e4 : (getS s 1).2 = 11 := by unfold getS; rw [if_pos h0, if_neg hl]
    unfold takeR at h
    rw [if_pos e3, e4] at h
    cases h
theorem loopR_less {W : Nat} : ∀ (k : Nat) (t : Nat × Nat × Nat) (s : List Bool × Nat) (X : List Nat) (s' : List Bool × Nat), loopR W k t s = some (X, s') → k ≤ s.1.length
  | 0, _, _, _, _, _ => Nat.zero_le _
  | k + 1, t, s, X, s', h => by
    rw [loopR] at h
    split at h
    next hok =>
      rw [Option.map_eq_some_iff] at h
      obtain ⟨⟨Y, q⟩, hY, he⟩ := h
      have := loopR_less k _ _ _ _ hY
      have := takeR_less hok
      omega
    next => cases h
/-- The words by the other way: each is taken off, and what is left looked at in the end. -/
def allF (W n : Nat) (L : List Bool) : Option (List Nat × (List Bool × Nat)) :=
  if n = 0 then some ([], (L, 0)) else (loopF W (n - 1) (0, 0, 0) (getS (L, 0) (8 * W))).map (fun q => (getV (L, 0) (8 * W) :: q.1, q.2))
theorem allF_takenR {W : Nat} (hW : 1 ≤ W) (n : Nat) (L : List Bool) : accR (allF W n L) = accR (takenR W n L) := by
  unfold allF takenR
  by_cases h0 : n = 0
  · rw [if_pos h0, if_neg (by omega), if_pos h0]
  · rw [if_neg h0, if_neg h0, accR_map, loopF_loopR]
    by_cases hl : L.length < n
    · rw [if_pos hl]
      by_cases he : (getS (L, 0) (8 * W)).2 ≠ 0
      · rw [loopR_err _ _ he]
        rfl
      · have hg := getS_ok (s := (L, 0)) (n := 8 * W) (by omega)
        cases hR : loopR W (n - 1) (0, 0, 0) (getS (L, 0) (8 * W)) with
        | none => rfl
        | some q =>
          obtain ⟨X, s'⟩ := q
          have h1 := loopR_less _ _ _ _ _ hR
          have h2 := hg.2
          simp only at h2
          omega
    · rw [if_neg hl, accR_map]
end Go.Proofs.YtcenbaajojdjlaaGreatDoor
