/- Plain mathematics of layer 12: a row of counts, and its tree: of each place, from 1 on, the counts of as many places up to it as its lowest bit says. Written ahead of the code. -/
import Derived.Lib.TrailingZeros
namespace Go.Proofs.Ytcjjlkfenlmmlaa

/-- A place's lowest bit. -/
def fLow (i : Nat) : Nat := 2 ^ Lib.ctz 64 i
/-- The first k counts together. -/
def fPre (c : List Int) (k : Nat) : Int := (c.take k).sum
/-- What a place of the tree has. -/
def fNode (c : List Int) (i : Nat) : Int := fPre c i - fPre c (i - fLow i)

theorem ctz_odd {i : Nat} (h0 : 0 < i) (h : i < 2 ^ 64) : ∃ m, i = fLow i * (2 * m + 1) := by
  obtain ⟨m, hm, -⟩ := Lib.ctzFrom_spec 64 i h0 h
  refine ⟨m, ?_⟩
  have : fLow i = 2 ^ Lib.ctzFrom 64 i := by unfold fLow Lib.ctz; rw [if_neg (by omega)]
  rw [this]; exact hm

theorem fLow_pos (i : Nat) : 0 < fLow i := Nat.two_pow_pos _

theorem fLow_le {i : Nat} (h0 : 0 < i) (h : i < 2 ^ 64) : fLow i ≤ i := by
  obtain ⟨m, hm⟩ := ctz_odd h0 h
  have h2 : fLow i * 1 ≤ fLow i * (2 * m + 1) := Nat.mul_le_mul_left _ (by omega)
  omega

/-- An odd number times a power of two: this power is its lowest bit. -/
theorem pow_odd_unique : ∀ (a b m n : Nat), 2 ^ a * (2 * m + 1) = 2 ^ b * (2 * n + 1) → a = b := by
  intro a
  induction a with
  | zero =>
    intro b m n h
    cases b with
    | zero => rfl
    | succ b => rw [Nat.pow_succ, Nat.mul_right_comm] at h; omega
  | succ a ih =>
    intro b m n h
    cases b with
    | zero => rw [Nat.pow_succ, Nat.mul_right_comm] at h; omega
    | succ b =>
      rw [Nat.pow_succ, Nat.pow_succ, Nat.mul_right_comm, Nat.mul_right_comm (2 ^ b)] at h
      rw [ih b m n (by omega)]

theorem fLow_of {i k m : Nat} (h : i < 2 ^ 64) (e : i = 2 ^ k * (2 * m + 1)) : fLow i = 2 ^ k := by
  have h0 : 0 < i := by rw [e]; exact Nat.mul_pos (Nat.two_pow_pos _) (by omega)
  obtain ⟨n, hn⟩ := ctz_odd h0 h
  have : Lib.ctz 64 i = k := pow_odd_unique _ _ n m (by rw [← e]; exact hn.symm)
  unfold fLow; rw [this]

/-- Below its lowest bit a place's lower bits are those of what is added. -/
theorem fLow_add {q r k : Nat} (hq : 2 ^ k ∣ q) (h0 : 0 < r) (hr : r < 2 ^ k) (h : q + r < 2 ^ 64) : fLow (q + r) = fLow r := by
  have hr64 : r < 2 ^ 64 := by omega
  obtain ⟨m, hm⟩ := ctz_odd h0 hr64
  obtain ⟨t, rfl⟩ := hq
  have hlt : Lib.ctz 64 r < k := by
    have h1 := fLow_le h0 hr64
    have h2 : 2 ^ Lib.ctz 64 r < 2 ^ k := Nat.lt_of_le_of_lt h1 hr
    exact (Nat.pow_lt_pow_iff_right (by omega)).1 h2
  obtain ⟨d, rfl⟩ : ∃ d, k = Lib.ctz 64 r + d + 1 := ⟨k - Lib.ctz 64 r - 1, by omega⟩
  generalize hc : Lib.ctz 64 r = c at *
  have hl : fLow r = 2 ^ c := by unfold fLow; rw [hc]
  rw [hl] at hm ⊢
  refine fLow_of (m := 2 ^ d * t + m) h ?_
  have e1 : 2 ^ (c + d + 1) * t = 2 ^ c * (2 * (2 ^ d * t)) := by
    rw [Nat.pow_succ, Nat.pow_add]; simp only [Nat.mul_assoc, Nat.mul_left_comm, Nat.mul_comm]
  rw [e1]; conv => lhs; rw [hm]
  rw [← Nat.mul_add]; congr 1; omega

/-- Of places between one and the next above it, none has it among its own. -/
theorem up_between {q j : Nat} (h0 : 0 < q) (h1 : q < j) (h2 : j < q + fLow q) (h : j < 2 ^ 64) : q ≤ j - fLow j := by
  obtain ⟨m, hm⟩ := ctz_odd h0 (by omega)
  have e : fLow j = fLow (j - q) := by
    have := fLow_add (q := q) (r := j - q) (k := Lib.ctz 64 q) ⟨2 * m + 1, hm⟩ (by omega) (by unfold fLow at h2; omega) (by omega)
    rw [← this]; congr 1; omega
  have := fLow_le (i := j - q) (by omega) (by omega)
  omega

/-- From the next one on, a place has both among its own, or none. -/
theorem up_beyond {q j : Nat} (h0 : 0 < q) (h2 : q + fLow q ≤ j) (h : j < 2 ^ 64) (hs : j - fLow j < q + fLow q) : j - fLow j < q := by
  have hj0 : 0 < j := by omega
  obtain ⟨m, hm⟩ := ctz_odd h0 (by omega)
  obtain ⟨n, hn⟩ := ctz_odd hj0 h
  have hlj := fLow_le hj0 h
  generalize hS : j - fLow j = s at *
  unfold fLow at *
  generalize Lib.ctz 64 q = a at *
  generalize Lib.ctz 64 j = k at *
  have es : s = 2 ^ (k + 1) * n := by
    have : 2 ^ k * (2 * n + 1) = 2 ^ (k + 1) * n + 2 ^ k := by rw [Nat.pow_succ, Nat.mul_add, Nat.mul_assoc]; omega
    omega
  refine Classical.byContradiction fun hc => ?_
  have hc : q ≤ s := by omega
  by_cases hk : k + 1 ≤ a
  · obtain ⟨d, rfl⟩ : ∃ d, a = k + 1 + d := ⟨a - (k + 1), by omega⟩
    have dv : 2 ^ (k + 1) ∣ q + 2 ^ (k + 1 + d) - s := by
      refine Nat.dvd_sub (Nat.dvd_add ?_ ?_) ⟨n, es⟩
      · exact ⟨2 ^ d * (2 * m + 1), by rw [← Nat.mul_assoc, ← Nat.pow_add]; exact hm⟩
      · exact ⟨2 ^ d, by rw [Nat.pow_add]⟩
    have := Nat.le_of_dvd (by omega) dv
    have hp : 2 ^ (k + 1) = 2 * 2 ^ k := by rw [Nat.pow_succ, Nat.mul_comm]
    have := Nat.two_pow_pos k
    omega
  · obtain ⟨d, rfl⟩ : ∃ d, k = a + d := ⟨k - a, by omega⟩
    have da : 2 ^ a ∣ s - q := by
      refine Nat.dvd_sub ⟨2 * (2 ^ d * n), ?_⟩ ⟨_, hm⟩
      rw [es, Nat.pow_succ, Nat.pow_add]; simp only [Nat.mul_left_comm, Nat.mul_comm]
    have hsq : s - q = 0 := Nat.eq_zero_of_dvd_of_lt da (by omega)
    have e2 : 2 ^ a * (2 * m + 1) = 2 ^ a * (2 * (2 ^ d * n)) := by
      have e3 : 2 ^ (a + d + 1) * n = 2 ^ a * (2 * (2 ^ d * n)) := by rw [Nat.pow_succ, Nat.pow_add]; simp only [Nat.mul_left_comm, Nat.mul_comm]
      rw [← e3, ← es, ← hm]; omega
    have := Nat.eq_of_mul_eq_mul_left (Nat.two_pow_pos a) e2
    omega

/-- A sum, a count behind it. -/
theorem fPre_succ (c : List Int) (k : Nat) (h : k < c.length) : fPre c (k + 1) = fPre c k + c[k] := by
  unfold fPre; rw [List.take_add_one, List.getElem?_eq_getElem h, List.sum_append]; simp
theorem fPre_zero (c : List Int) : fPre c 0 = 0 := by simp [fPre]
theorem fPre_most (c : List Int) {k : Nat} (h : c.length ≤ k) : fPre c k = c.sum := by unfold fPre; rw [List.take_of_length_le h]

/-- A count that is d more. -/
theorem fPre_set (c : List Int) (i : Nat) (h : i < c.length) (d : Int) : ∀ k, fPre (c.set i (c[i] + d)) k = fPre c k + if i < k then d else 0 := by
  intro k
  induction k with
  | zero => simp [fPre_zero]
  | succ k ih =>
    by_cases hk : k < c.length
    · rw [fPre_succ _ _ (by simpa using hk), fPre_succ _ _ hk, ih, List.getElem_set]
      by_cases e : i = k
      · subst e; simp; omega
      · rw [if_neg e]; by_cases h1 : i < k
        · rw [if_pos h1, if_pos (by omega)]; omega
        · rw [if_neg h1, if_neg (by omega)]; omega
    · have e1 := fPre_most (c.set i (c[i] + d)) (k := k) (by simp; omega)
      have e2 := fPre_most (c.set i (c[i] + d)) (k := k + 1) (by simp; omega)
      have e3 := fPre_most c (k := k) (by omega)
      have e4 := fPre_most c (k := k + 1) (by omega)
      rw [e2, ← e1, e4, ← e3, ih, if_pos (by omega), if_pos (by omega)]

/-- What of it a place of the tree has. -/
theorem fNode_set (c : List Int) (p : Nat) (h : p < c.length) (d : Int) (j : Nat) :
    fNode (c.set p (c[p] + d)) j = fNode c j + if j - fLow j < p + 1 ∧ p + 1 ≤ j then d else 0 := by
  unfold fNode; rw [fPre_set, fPre_set]
  by_cases h1 : p < j
  · by_cases h2 : p < j - fLow j
    · rw [if_pos h1, if_pos h2, if_neg (by omega)]; omega
    · rw [if_pos h1, if_neg h2, if_pos (by omega)]; omega
  · rw [if_neg h1, if_neg (by omega), if_neg (by omega)]; omega

/-- The way down: a sum is a place's and the sum ahead of what it has. -/
theorem fPre_down (c : List Int) (i : Nat) : fPre c i = fNode c i + fPre c (i - fLow i) := by unfold fNode; omega

/-- No count is below 0: sums grow. -/
theorem fPre_mono {c : List Int} (hc : ∀ x ∈ c, 0 ≤ x) {a b : Nat} (h : a ≤ b) : fPre c a ≤ fPre c b := by
  obtain ⟨d, rfl⟩ : ∃ d, b = a + d := ⟨b - a, by omega⟩
  clear h
  induction d with
  | zero => exact Int.le_refl _
  | succ d ih =>
    refine Int.le_trans ih ?_
    rw [← Nat.add_assoc]
    by_cases hk : a + d < c.length
    · rw [fPre_succ _ _ hk]; have := hc _ (List.getElem_mem hk); omega
    · rw [fPre_most c (k := a + d) (by omega), fPre_most c (k := a + d + 1) (by omega)]; exact Int.le_refl _

/-- The search by halves: a place behind a multiple of twice a power of two has this power as its lowest bit. -/
theorem fLow_half {p k : Nat} (hp : 2 ^ (k + 1) ∣ p) (h : p + 2 ^ k < 2 ^ 64) : fLow (p + 2 ^ k) = 2 ^ k := by
  obtain ⟨t, rfl⟩ := hp
  refine fLow_of (m := t) h ?_
  rw [Nat.pow_succ, Nat.mul_add, Nat.mul_assoc]; omega
theorem fNode_half (c : List Int) {p k : Nat} (hp : 2 ^ (k + 1) ∣ p) (h : p + 2 ^ k < 2 ^ 64) : fNode c (p + 2 ^ k) = fPre c (p + 2 ^ k) - fPre c p := by
  unfold fNode; rw [fLow_half hp h, Nat.add_sub_cancel]

/-- Each half of it, rounded up. -/
def fHalf (c : List Int) : List Int := c.map fun x => (x + 1) / 2
theorem fHalf_nn {c : List Int} (hc : ∀ x ∈ c, 0 ≤ x) : ∀ x ∈ fHalf c, 0 ≤ x := by
  intro x hx; obtain ⟨y, hy, rfl⟩ := List.mem_map.1 hx; have := hc y hy; omega
theorem fHalf_sum {c : List Int} (hc : ∀ x ∈ c, 0 ≤ x) : (fHalf c).sum ≤ c.sum := by
  induction c with
  | nil => simp [fHalf]
  | cons a c ih =>
    have h1 := ih fun x hx => hc x (List.mem_cons_of_mem _ hx)
    have h2 := hc a List.mem_cons_self
    simp only [fHalf, List.map_cons, List.sum_cons] at h1 ⊢; omega
theorem fHalf_length (c : List Int) : (fHalf c).length = c.length := by simp [fHalf]
theorem fHalf_one {c : List Int} (hc : ∀ x ∈ c, 1 ≤ x) : ∀ x ∈ fHalf c, 1 ≤ x := by
  intro x hx; obtain ⟨y, hy, rfl⟩ := List.mem_map.1 hx; have := hc y hy; omega
/-- Where none is below 1, and they are more than as many: halves are fewer. -/
theorem fHalf_less {c : List Int} (hc : ∀ x ∈ c, 1 ≤ x) (h : (c.length : Int) < c.sum) : (fHalf c).sum < c.sum := by
  have key : ∀ c : List Int, (∀ x ∈ c, 1 ≤ x) → 2 * (fHalf c).sum ≤ c.sum + c.length := by
    intro c
    induction c with
    | nil => intro _; simp [fHalf]
    | cons a c ih =>
      intro hc
      have h1 := ih fun x hx => hc x (List.mem_cons_of_mem _ hx)
      simp only [fHalf, List.map_cons, List.sum_cons, List.length_cons] at h1 ⊢; omega
  have := key c hc
  omega

/-- Which one a number falls into. -/
def fFind (c : List Int) (v : Int) : Option Nat := if v < 0 then none else (List.range c.length).find? fun i => decide (v < fPre c (i + 1))
theorem fFind_some {c : List Int} (hc : ∀ x ∈ c, 0 ≤ x) {v : Int} {r : Nat} (hv : 0 ≤ v) (hr : r < c.length) (h1 : fPre c r ≤ v) (h2 : v < fPre c (r + 1)) : fFind c v = some r := by
  unfold fFind; rw [if_neg (by omega), List.find?_range_eq_some]
  refine ⟨by simpa using h2, by simpa using hr, ?_⟩
  intro j hj
  have := fPre_mono hc (a := j + 1) (b := r) (by omega)
  simp; omega
theorem fFind_none {c : List Int} (hc : ∀ x ∈ c, 0 ≤ x) {v : Int} (h : v < 0 ∨ c.sum ≤ v) : fFind c v = none := by
  unfold fFind
  by_cases hv : v < 0
  · rw [if_pos hv]
  · rw [if_neg hv, List.find?_eq_none]
    intro j hj
    have hj : j < c.length := by simpa using hj
    have := fPre_mono hc (a := j + 1) (b := c.length) (by omega)
    rw [fPre_most c (Nat.le_refl _)] at this
    simp; omega

/-- The search by halves, from a place on. -/
def fSeek (c : List Int) (v : Int) : Nat → Nat → Nat
  | 0, p => p
  | k + 1, p => if p + 2 ^ k ≤ c.length ∧ fPre c (p + 2 ^ k) ≤ v then fSeek c v k (p + 2 ^ k) else fSeek c v k p
theorem fSeek_spec (c : List Int) (v : Int) : ∀ (k p : Nat), p ≤ c.length → fPre c p ≤ v → (c.length < p + 2 ^ k ∨ v < fPre c (p + 2 ^ k)) →
    fSeek c v k p ≤ c.length ∧ fPre c (fSeek c v k p) ≤ v ∧ (fSeek c v k p = c.length ∨ v < fPre c (fSeek c v k p + 1)) := by
  intro k
  induction k with
  | zero =>
    intro p h1 h2 h3
    refine ⟨h1, h2, ?_⟩
    rcases h3 with h | h
    · exact .inl (by simp only [fSeek]; omega)
    · exact .inr (by simpa [fSeek] using h)
  | succ k ih =>
    intro p h1 h2 h3
    have e : p + 2 ^ (k + 1) = p + 2 ^ k + 2 ^ k := by rw [Nat.pow_succ]; omega
    unfold fSeek
    by_cases hq : p + 2 ^ k ≤ c.length ∧ fPre c (p + 2 ^ k) ≤ v
    · rw [if_pos hq]; exact ih _ hq.1 hq.2 (e ▸ h3)
    · rw [if_neg hq]; refine ih _ h1 h2 ?_
      by_cases h : p + 2 ^ k ≤ c.length
      · exact .inr (by
          have : ¬ fPre c (p + 2 ^ k) ≤ v := fun x => hq ⟨h, x⟩
          omega)
      · exact .inl (by omega)
/-- What the search by halves comes to is what is asked for. -/
theorem fSeek_find {c : List Int} (hc : ∀ x ∈ c, 0 ≤ x) {v : Int} {k : Nat} (h0 : 0 ≤ v) (hv : v < c.sum) (hk : c.length < 2 ^ k) : fFind c v = some (fSeek c v k 0) ∧ fSeek c v k 0 < c.length := by
  obtain ⟨h1, h2, h3⟩ := fSeek_spec c v k 0 (by omega) (by rw [fPre_zero]; exact h0) (.inl (by omega))
  have hlt : fSeek c v k 0 < c.length := by
    refine Nat.lt_of_le_of_ne h1 fun e => ?_
    rw [e, fPre_most c (Nat.le_refl _)] at h2; omega
  rcases h3 with h | h
  · omega
  · exact ⟨fFind_some hc h0 hlt h2 h, hlt⟩
/-- What was found lies where it should. -/
theorem fFind_in {c : List Int} {v : Int} {r : Nat} (h : fFind c v = some r) : 0 ≤ v ∧ r < c.length ∧ v < fPre c (r + 1) ∧ fPre c r ≤ v := by
  unfold fFind at h
  by_cases hv : v < 0
  · rw [if_pos hv] at h; cases h
  · rw [if_neg hv, List.find?_range_eq_some] at h
    obtain ⟨h1, h2, h3⟩ := h
    refine ⟨by omega, by simpa using h2, by simpa using h1, ?_⟩
    cases r with
    | zero => rw [fPre_zero]; omega
    | succ r => have := h3 r (by omega); simp at this; omega
end Go.Proofs.Ytcjjlkfenlmmlaa
