/- Layer 20, plain: of lens their Kraft sum, and which are noughts. -/
import Derived.Test.YtjncmfoommlldaaLKraft
import Derived.Test.YtjncmfoommlldaaLensR
namespace Go.Proofs.Ytjncmfoommlldaa

theorem LensOfR.len {c o : List Int} (h : LensOfR c o) : o.length = c.length := by
  induction h with
  | done c o h hs => exact h.len
  | half c o r h hs hr ih => rw [ih, List.length_map]
def posB (x : Int) : Bool := decide (0 < x)
theorem posL_many (c : List Int) : (posL c).length = (c.map posB).countP id := by
  unfold posL posB
  induction c with
  | nil => rfl
  | cons x c ih =>
    rw [List.map_cons, List.countP_cons, ← ih]
    by_cases h : 0 < x <;> simp [h]
theorem lens_end {c o : List Int} (h : LensOfR c o) : (∀ x ∈ c, 0 ≤ x) → ∃ c', DeepR c' o ∧ Short o ∧ (∀ x ∈ c', 0 ≤ x) ∧ c'.map posB = c.map posB := by
  induction h with
  | done c o h hs => exact fun hc => ⟨c, h, hs, hc, rfl⟩
  | half c o r h hs hr ih =>
    intro hc
    obtain ⟨c', h1, h2, h3, h4⟩ := ih fun x hx => by
      obtain ⟨y, hy, rfl⟩ := List.mem_map.1 hx
      exact (half_le (hc y hy)).1
    refine ⟨c', h1, h2, h3, ?_⟩
    rw [h4, List.map_map]
    refine List.map_congr_left fun x hx => ?_
    have := hc x hx
    show posB (halfI x) = posB x
    unfold posB
    exact decide_eq_decide.2 (by unfold halfI; omega)
theorem deep_at {c o : List Int} (h : DeepR c o) {k : Nat} (hk : k < o.length) : ∃ d : Nat, o[k] = (d : Int) ∧ (d = 0 ↔ (c.map posB)[k]? = some false) := by
  have hl := h.len
  obtain ⟨g, -, rfl⟩ := h
  have hk' : k < c.length := by omega
  have h1 := lensF_get g.d c 0 k hk'
  rw [List.getElem?_eq_getElem hk] at h1
  injection h1 with h1
  rw [h1, List.getElem?_map, List.getElem?_eq_getElem hk']
  by_cases e : 0 < c[k]
  · exact ⟨_, if_pos e, by simp [posB, e]⟩
  · exact ⟨0, if_neg e, by simp [posB, e]⟩
/-- Of lens: none too long, and 0 just where there is nothing. -/
theorem lens_at {c o : List Int} (h : LensOfR c o) (hc : ∀ x ∈ c, 0 ≤ x) {k : Nat} (hk : k < o.length) (hk' : k < c.length) : 0 ≤ o[k] ∧ o[k] ≤ 15 ∧ (o[k] = 0 ↔ c[k] = 0) := by
  obtain ⟨c', h1, h2, -, h4⟩ := lens_end h hc
  obtain ⟨d, hd, hz⟩ := deep_at h1 hk
  have h5 := h2 _ (List.getElem_mem hk)
  have h6 := hc _ (List.getElem_mem hk')
  rw [h4, List.getElem?_map, List.getElem?_eq_getElem hk'] at hz
  simp only [Option.map_some, Option.some.injEq, posB, decide_eq_false_iff_not] at hz
  omega
def bitK (d : Nat) : Nat := if 1 ≤ max d 1 ∧ max d 1 ≤ 15 then 2 ^ (15 - max d 1) else 0
theorem allOf_head (v : Nat → Nat) : ∀ k, allOf v (k + 1) = v 0 + allOf (fun i => v (i + 1)) k
  | 0 => by simp [allOf]
  | k + 1 => by
    rw [allOf, allOf_head v k, allOf]
    omega
theorem kraft_lensF (d : Nat → Nat) : ∀ (c : List Int) (j : Nat), kraftI (lensF d c j) = allOf (fun i => bitK (d (j + i))) (posL c).length
  | [], _ => rfl
  | x :: c, j => by
    unfold lensF posL
    by_cases h : 0 < x
    · rw [if_pos h, List.filter_cons_of_pos (by simpa using h), List.length_cons, allOf_head]
      have ih := kraft_lensF d c (j + 1)
      unfold kraftI kraftL posL at *
      rw [List.map_cons, List.map_cons, List.sum_cons, ih, Int.toNat_natCast]
      simp only [Nat.add_assoc, Nat.add_comm 1]
      rfl
    · rw [if_neg h, List.filter_cons_of_neg (by simpa using h)]
      have ih := kraft_lensF d c j
      unfold kraftI kraftL posL at *
      rw [List.map_cons, List.map_cons, List.sum_cons, ih]
      simp
theorem allOf_congr {u v : Nat → Nat} : ∀ k, (∀ i, i < k → u i = v i) → allOf u k = allOf v k
  | 0, _ => rfl
  | k + 1, h => by rw [allOf, allOf, allOf_congr k fun i hi => h i (by omega), h k (by omega)]
theorem one_deep {w : Nat → Nat} {g : For} (h : Huff (For.start 1 w) g) : g.d 0 = 0 := by
  cases h with
  | last => rfl
  | join _ _ a b ha hb hr =>
    have h1 := (start_ok 1 w).less a ha.1
    have h2 := (start_ok 1 w).less b hb.1.1
    have h3 : (For.start 1 w).N = 1 := rfl
    exact absurd (show b = a by omega) hb.1.2
theorem deep_small {c : List Int} {d : Nat → Nat} (hs : Short (lensF d c 0)) {i : Nat} (hi : i < (posL c).length) : max (d i) 1 ≤ 15 := by
  have key : ∀ (c : List Int) (j i : Nat), i < (posL c).length → ((max (d (j + i)) 1 : Nat) : Int) ∈ lensF d c j := by
    intro c
    induction c with
    | nil => intro j i h; simp [posL] at h
    | cons x c ih =>
      intro j i h
      unfold lensF
      unfold posL at h ih
      by_cases hx : 0 < x
      · rw [if_pos hx]
        rw [List.filter_cons_of_pos (by simpa using hx), List.length_cons] at h
        cases i with
        | zero => exact List.mem_cons_self
        | succ i =>
          have := ih (j + 1) i (by omega)
          rw [show j + 1 + i = j + (i + 1) by omega] at this
          exact List.mem_cons_of_mem _ this
      · rw [if_neg hx]
        rw [List.filter_cons_of_neg (by simpa using hx)] at h
        exact List.mem_cons_of_mem _ (ih j i h)
  have := hs _ (key c 0 i hi)
  rw [Nat.zero_add] at this
  omega
/-- The sum of lens: none, half of all codes, all codes. -/
theorem lens_kraft {c o : List Int} (h : LensOfR c o) (hc : ∀ x ∈ c, 0 ≤ x) :
    ((posL c).length = 0 → kraftI o = 0) ∧ ((posL c).length = 1 → kraftI o = 16384) ∧ (2 ≤ (posL c).length → kraftI o = 32768) := by
  obtain ⟨c', h1, h2, -, h4⟩ := lens_end h hc
  rw [posL_many, ← h4, ← posL_many]
  obtain ⟨g, hg, rfl⟩ := h1
  rw [kraft_lensF]
  refine ⟨fun e => by rw [e]; rfl, fun e => ?_, fun e => ?_⟩
  · rw [e] at hg ⊢
    have := one_deep hg
    simp only [allOf, Nat.zero_add, this]
    decide
  · have hd := huff_deep hg e
    have h15 : ∀ j, j < (posL c').length → g.d j ≤ 15 := fun j hj => by have := deep_small h2 hj; omega
    have := huff_kraft hg (by omega) h15
    rw [← (by decide : 2 ^ 15 = 32768), ← this]
    refine allOf_congr _ fun i hi => ?_
    have q1 := hd i hi
    have q2 := h15 i hi
    unfold bitK
    rw [Nat.zero_add, show max (g.d i) 1 = g.d i by omega, if_pos ⟨q1, q2⟩]
/-- Where the counts' own depths are small, lens go with them. -/
theorem lens_deep {c o o' : List Int} (h : LensOfR c o) (h' : DeepR c o') (hs : Short o') : o = o' := (LensOfR.done c o' h' hs).one h |>.symm
/-- The more often a letter is there, the shorter is its code, or as short. -/
theorem deep_mono {c o : List Int} (h : DeepR c o) {i k : Nat} (hi : i < o.length) (hk : k < o.length) (hi' : i < c.length) (hk' : k < c.length) (h0 : 0 < c[k]) (h1 : c[k] < c[i]) : o[i] ≤ o[k] := by
  obtain ⟨g, hg, rfl⟩ := h
  have e1 := lensF_get g.d c 0 i hi'
  have e2 := lensF_get g.d c 0 k hk'
  rw [List.getElem?_eq_getElem hi] at e1
  rw [List.getElem?_eq_getElem hk] at e2
  injection e1 with e1
  injection e2 with e2
  rw [e1, e2, if_pos h0, if_pos (by omega), Nat.zero_add, Nat.zero_add]
  have := huff_mono hg (rankL_lt c hi' (by omega)) (rankL_lt c hk' h0) (by rw [wtL_rank c hi' (by omega), wtL_rank c hk' h0]; omega)
  omega
end Go.Proofs.Ytjncmfoommlldaa
