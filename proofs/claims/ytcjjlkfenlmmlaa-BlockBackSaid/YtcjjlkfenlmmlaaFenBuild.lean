/- Plain mathematics of layer 12: how a row of counts becomes its tree, place by place, each adding what it has to the next place that is to hold it too. -/
import Derived.Test.YtcjjlkfenlmmlaaFenMath
namespace Go.Proofs.Ytcjjlkfenlmmlaa

/-- What of the first k places is added to place j. -/
def fKids (c : List Int) (j : Nat) : Nat → Int
  | 0 => 0
  | k + 1 => fKids c j k + if (k + 1) + fLow (k + 1) = j then fNode c (k + 1) else 0

theorem fKids_none (c : List Int) (j : Nat) : ∀ k k', k ≤ k' → (∀ q, k < q → q ≤ k' → q + fLow q ≠ j) → fKids c j k' = fKids c j k := by
  intro k k' h
  obtain ⟨d, rfl⟩ : ∃ d, k' = k + d := ⟨k' - k, by omega⟩
  clear h
  induction d with
  | zero => intro _; rfl
  | succ d ih =>
    intro hq
    show fKids c j (k + d) + (if k + d + 1 + fLow (k + d + 1) = j then fNode c (k + d + 1) else 0) = _
    rw [if_neg (hq (k + d + 1) (by omega) (by omega)), ih fun q h1 h2 => hq q h1 (by omega), Int.add_zero]

theorem fLow_pow (i : Nat) : ∃ s, fLow i = 2 ^ s := ⟨_, rfl⟩

theorem fLow_sub {j t : Nat} (h0 : 0 < j) (h : j < 2 ^ 64) (ht : 2 ^ t < fLow j) : fLow (j - 2 ^ t) = 2 ^ t := by
  obtain ⟨m, hm⟩ := ctz_odd h0 h
  obtain ⟨a, ha⟩ := fLow_pow j
  rw [ha] at hm ht
  have hta : t < a := (Nat.pow_lt_pow_iff_right (by omega)).1 ht
  obtain ⟨d, rfl⟩ : ∃ d, a = t + d + 1 := ⟨a - t - 1, by omega⟩
  obtain ⟨x, hx⟩ : ∃ x, 2 ^ d * (2 * m + 1) = x + 1 := ⟨2 ^ d * (2 * m + 1) - 1, by have := Nat.mul_pos (Nat.two_pow_pos d) (show 0 < 2 * m + 1 by omega); omega⟩
  refine fLow_of (m := x) (Nat.lt_of_le_of_lt (Nat.sub_le ..) h) ?_
  have e : 2 ^ (t + d + 1) * (2 * m + 1) = 2 ^ t * (2 * (x + 1)) := by
    rw [← hx, Nat.pow_succ, Nat.pow_add]; simp only [Nat.mul_left_comm, Nat.mul_comm]
  rw [hm, e, show 2 * (x + 1) = 2 * x + 1 + 1 by omega, Nat.mul_add (2 ^ t) (2 * x + 1) 1]
  omega

/-- All that is added to a place: what is ahead of it among its own. -/
theorem fKids_all (c : List Int) {j : Nat} (h0 : 0 < j) (h : j < 2 ^ 64) : fKids c j (j - 1) = fPre c (j - 1) - fPre c (j - fLow j) := by
  obtain ⟨a, ha⟩ := fLow_pow j
  have hle := fLow_le h0 h
  have first : fKids c j (j - fLow j) = 0 := by
    refine fKids_none c j 0 _ (Nat.zero_le _) fun q h1 h2 e => ?_
    have hq := fLow_pos q
    have := up_beyond (q := q) (j := j) h1 (by omega) h (by have := fLow_pos j; omega)
    omega
  have key : ∀ t, t ≤ a → fKids c j (j - 2 ^ (a - t)) = fPre c (j - 2 ^ (a - t)) - fPre c (j - fLow j) := by
    intro t
    induction t with
    | zero => intro _; rw [Nat.sub_zero, ← ha, first]; omega
    | succ t ih =>
      intro ht
      have ih := ih (by omega)
      obtain ⟨s, hs⟩ : ∃ s, a - (t + 1) = s := ⟨_, rfl⟩
      rw [hs]
      have hs1 : a - t = s + 1 := by omega
      rw [hs1] at ih
      have hp : 2 ^ (s + 1) = 2 ^ s + 2 ^ s := by rw [Nat.pow_succ]; omega
      have hpos := Nat.two_pow_pos s
      have hsa : 2 ^ (s + 1) ≤ 2 ^ a := Nat.pow_le_pow_right (by omega) (by omega)
      have hlow := fLow_sub h0 h (t := s) (by rw [ha]; omega)
      obtain ⟨q, hq⟩ : ∃ q, j - 2 ^ s = q + 1 := ⟨j - 2 ^ s - 1, by omega⟩
      rw [hq] at hlow
      have hmid : fKids c j q = fKids c j (j - 2 ^ (s + 1)) := by
        refine fKids_none c j _ _ (by omega) fun r h1 h2 e => ?_
        obtain ⟨u, hu⟩ := fLow_pow r
        have g1 : 2 ^ s < 2 ^ u := by omega
        have g2 : 2 ^ u < 2 ^ (s + 1) := by omega
        have := (Nat.pow_lt_pow_iff_right (a := 2) (by omega)).1 g1
        have := (Nat.pow_lt_pow_iff_right (a := 2) (by omega)).1 g2
        omega
      rw [hq]
      show fKids c j q + _ = _
      rw [if_pos (by rw [hlow]; omega), hmid, ih]
      unfold fNode
      rw [hlow, show q + 1 - 2 ^ s = j - 2 ^ (s + 1) by omega]
      omega
  have := key a (Nat.le_refl _)
  rwa [Nat.sub_self, Nat.pow_zero] at this

theorem fKids_most (c : List Int) {j k : Nat} (h : j - 1 ≤ k) (hj : 0 < j) : fKids c j k = fKids c j (j - 1) :=
  fKids_none c j _ _ h fun q h1 _ => by have := fLow_pos q; omega

/-- Place j, when the first k have been added. -/
def bAt (c : List Int) (k j : Nat) : Int := if j = 0 then 0 else c.getD (j - 1) 0 + fKids c j k
theorem bAt_most (c : List Int) {j k : Nat} (h : j ≤ k + 1) (h1 : j ≤ c.length) (h64 : c.length < 2 ^ 64) : bAt c k j = fNode c j := by
  unfold bAt
  by_cases h0 : j = 0
  · subst h0; simp [fNode, fPre_zero]
  · obtain ⟨i, rfl⟩ : ∃ i, j = i + 1 := ⟨j - 1, by omega⟩
    rw [if_neg h0, fKids_most c (by omega) (by omega), fKids_all c (by omega) (by omega)]
    unfold fNode
    rw [fPre_succ c i (by omega)]
    simp [List.getD_eq_getElem?_getD, List.getElem?_eq_getElem (show i < c.length by omega)]
    omega

theorem fNode_nn {c : List Int} (hc : ∀ x ∈ c, 0 ≤ x) (j : Nat) : 0 ≤ fNode c j := by
  unfold fNode; have := fPre_mono hc (a := j - fLow j) (b := j) (by omega); omega
theorem fPre_nn {c : List Int} (hc : ∀ x ∈ c, 0 ≤ x) (j : Nat) : 0 ≤ fPre c j := by
  have := fPre_mono hc (Nat.zero_le j); rwa [fPre_zero] at this
theorem fPre_le {c : List Int} (hc : ∀ x ∈ c, 0 ≤ x) (j : Nat) : fPre c j ≤ c.sum := by
  rcases Nat.le_total c.length j with h | h
  · rw [fPre_most c h]; exact Int.le_refl _
  · have := fPre_mono hc h; rwa [fPre_most c (Nat.le_refl _)] at this
theorem fNode_le {c : List Int} (hc : ∀ x ∈ c, 0 ≤ x) (j : Nat) : fNode c j ≤ c.sum := by
  unfold fNode; have := fPre_le hc j; have := fPre_nn hc (j - fLow j); omega
theorem fKids_mono {c : List Int} (hc : ∀ x ∈ c, 0 ≤ x) (j : Nat) {k k' : Nat} (h : k ≤ k') : fKids c j k ≤ fKids c j k' := by
  obtain ⟨d, rfl⟩ : ∃ d, k' = k + d := ⟨k' - k, by omega⟩
  clear h
  induction d with
  | zero => exact Int.le_refl _
  | succ d ih =>
    refine Int.le_trans ih ?_
    show _ ≤ fKids c j (k + d) + (if k + d + 1 + fLow (k + d + 1) = j then fNode c (k + d + 1) else 0)
    have := fNode_nn hc (k + d + 1)
    split <;> omega
theorem getD_nn {c : List Int} (hc : ∀ x ∈ c, 0 ≤ x) (j : Nat) : 0 ≤ c.getD j 0 := by
  rcases Nat.lt_or_ge j c.length with h | h
  · simp [List.getD_eq_getElem?_getD, List.getElem?_eq_getElem h]; exact hc _ (List.getElem_mem h)
  · simp [List.getD_eq_getElem?_getD, List.getElem?_eq_none h]
theorem bAt_nn {c : List Int} (hc : ∀ x ∈ c, 0 ≤ x) (k j : Nat) : 0 ≤ bAt c k j := by
  unfold bAt
  split
  · exact Int.le_refl _
  · have := getD_nn hc (j - 1)
    have := fKids_mono hc j (Nat.zero_le k)
    simp only [fKids] at this
    omega
theorem bAt_le {c : List Int} (hc : ∀ x ∈ c, 0 ≤ x) (h64 : c.length < 2 ^ 64) {k j : Nat} (h1 : j ≤ c.length) : bAt c k j ≤ c.sum := by
  by_cases h : j ≤ k + 1
  · rw [bAt_most c h h1 h64]; exact fNode_le hc j
  · have e := bAt_most c (j := j) (k := j - 1) (by omega) h1 h64
    have := fNode_le hc j
    have := fKids_mono hc j (k := k) (k' := j - 1) (by omega)
    unfold bAt at e ⊢
    rw [if_neg (by omega)] at e ⊢
    omega
theorem bAt_succ (c : List Int) (k j : Nat) (hj : 0 < j) : bAt c (k + 1) j = bAt c k j + if (k + 1) + fLow (k + 1) = j then fNode c (k + 1) else 0 := by
  unfold bAt; rw [if_neg (by omega), if_neg (by omega)]; show _ + (fKids c j k + _) = _; omega

/-- All places, when the first k have been added. -/
def bRow (c : List Int) (k : Nat) : List Int := (List.range (c.length + 1)).map (bAt c k)
/-- The tree. -/
def fRow (c : List Int) : List Int := (List.range (c.length + 1)).map (fNode c)
theorem bRow_len (c : List Int) (k : Nat) : (bRow c k).length = c.length + 1 := by simp [bRow]
theorem fRow_len (c : List Int) : (fRow c).length = c.length + 1 := by simp [fRow]
theorem bRow_get (c : List Int) (k j : Nat) (h : j ≤ c.length) : (bRow c k)[j]? = some (bAt c k j) := by
  unfold bRow; rw [List.getElem?_map, List.getElem?_range (by omega)]; rfl
theorem fRow_get (c : List Int) (j : Nat) (h : j ≤ c.length) : (fRow c)[j]? = some (fNode c j) := by
  unfold fRow; rw [List.getElem?_map, List.getElem?_range (by omega)]; rfl
theorem bRow_zero (c : List Int) : bRow c 0 = 0 :: c := by
  refine List.ext_getElem? fun i => ?_
  rcases Nat.lt_or_ge i (c.length + 1) with h | h
  · rw [bRow_get c 0 i (by omega)]
    cases i with
    | zero => rfl
    | succ i => simp [bAt, fKids, List.getD_eq_getElem?_getD, List.getElem?_eq_getElem (show i < c.length by omega)]
  · rw [List.getElem?_eq_none (by rw [bRow_len]; exact h), List.getElem?_eq_none (by simpa using h)]
theorem bRow_most (c : List Int) (h64 : c.length < 2 ^ 64) : bRow c c.length = fRow c := by
  refine List.map_congr_left fun j hj => ?_
  have := List.mem_range.1 hj
  exact bAt_most c (by omega) (by omega) h64
theorem bRow_here (c : List Int) (k : Nat) (h : k + 1 ≤ c.length) (h64 : c.length < 2 ^ 64) : bAt c k (k + 1) = fNode c (k + 1) ∧ bAt c (k + 1) (k + 1) = fNode c (k + 1) :=
  ⟨bAt_most c (Nat.le_refl _) h h64, bAt_most c (by omega) h h64⟩
/-- A place is added. -/
theorem bRow_step (c : List Int) (k : Nat) : bRow c (k + 1) = if (k + 1) + fLow (k + 1) ≤ c.length then (bRow c k).set ((k + 1) + fLow (k + 1)) (bAt c k ((k + 1) + fLow (k + 1)) + fNode c (k + 1)) else bRow c k := by
  refine List.ext_getElem? fun i => ?_
  rcases Nat.lt_or_ge i (c.length + 1) with h | h
  · rw [bRow_get c _ i (by omega)]
    by_cases hi : i = 0
    · subst hi
      have e : bAt c (k + 1) 0 = bAt c k 0 := by simp [bAt]
      rw [e]
      split
      · rw [List.getElem?_set_ne (by omega), bRow_get c k 0 (by omega)]
      · rw [bRow_get c k 0 (by omega)]
    · rw [bAt_succ c k i (by omega)]
      by_cases he : (k + 1) + fLow (k + 1) = i
      · rw [if_pos he, if_pos (by omega), he, List.getElem?_set_self (by rw [bRow_len]; exact h)]
      · rw [if_neg he, Int.add_zero]
        split
        · rw [List.getElem?_set_ne he, bRow_get c k i (by omega)]
        · rw [bRow_get c k i (by omega)]
  · rw [List.getElem?_eq_none (by rw [bRow_len]; exact h)]
    split
    · rw [List.getElem?_eq_none (by rw [List.length_set, bRow_len]; exact h)]
    · rw [List.getElem?_eq_none (by rw [bRow_len]; exact h)]
/-- A place is taken away again. -/
theorem bRow_back (c : List Int) (k : Nat) : bRow c k = if (k + 1) + fLow (k + 1) ≤ c.length then (bRow c (k + 1)).set ((k + 1) + fLow (k + 1)) (bAt c (k + 1) ((k + 1) + fLow (k + 1)) - fNode c (k + 1)) else bRow c (k + 1) := by
  have e := bRow_step c k
  split
  · rename_i h
    rw [if_pos h] at e
    rw [e, List.set_set, bAt_succ c k _ (by omega), if_pos rfl]
    refine List.ext_getElem? fun i => ?_
    by_cases hi : (k + 1) + fLow (k + 1) = i
    · rw [← hi, List.getElem?_set_self (by rw [bRow_len]; omega), bRow_get c k _ h]; congr 1; omega
    · rw [List.getElem?_set_ne hi]
  · rename_i h
    rw [if_neg h] at e; exact e.symm
theorem bAt_here (c : List Int) (k : Nat) : bAt c (k + 1) (k + 1 + fLow (k + 1)) = bAt c k (k + 1 + fLow (k + 1)) + fNode c (k + 1) := by
  rw [bAt_succ c k _ (by omega), if_pos rfl]
end Go.Proofs.Ytcjjlkfenlmmlaa
