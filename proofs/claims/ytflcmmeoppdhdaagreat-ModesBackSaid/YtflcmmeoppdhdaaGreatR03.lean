/-
  Plain mathematics of layer 12: a row of counts, and its tree: of each place, from 1 on, the counts of as many places up to it as its lowest bit says. Written ahead of the code. · Plain mathematics of layer 12: how a row of counts becomes its tree, place by place, each adding what it has to the next place that is to hold it too. · Rows of numbers as cells; small laws of memory beside them; a number's list that came in. General: no code of the project. · Layer 19: the reference's counts: Begin, K, Behind. · Layer 19: the program's counts: first, parameter, behind.
-/
import Derived.Test.YtflcmmeoppdhdaaGreatR01
import Derived.Test.YtflcmmeoppdhdaaGreatR02
import Derived.Lib.TrailingZeros
import Derived.Test.YtflcmmeoppdhdaaGreatProg
import Derived.Lib.Strings
import Derived.Lib.Slices
import Derived.Lib.Small
import Derived.Lib.Walk
import Derived.Deep.DeepMust
import Derived.BigQuiet
import Derived.BigRegion
import Derived.StillTailTactics
import Derived.Lib.QuietBelow
namespace Go.Proofs.YtflcmmeoppdhdaaGreat

/-- A place's lowest bit. -/
def fLow (i : Nat) : Nat := 2 ^ Lib.ctz 64 i
/-- The first k counts together. -/
def fPre (c : List Int) (k : Nat) : Int := (c.take k).sum
/-- What a place of the tree has. -/
def fNode (c : List Int) (i : Nat) : Int := fPre c i - fPre c (i - fLow i)

theorem ctz_odd {i : Nat} (h0 : 0 < i) (h : i < 2 ^ 64) : ∃ m, i = fLow i * (2 * m + 1) := by
  obtain ⟨m, hm, -⟩ := Lib.ctzFrom_spec 64 i h0 h
  refine ⟨m, ?_⟩
  have : fLow i = 2 ^ Lib.ctzFrom 64 i := by unfold fLow Lib.ctz; rw [if_neg (by omega)]
  rw [this]; exact hm

theorem fLow_pos (i : Nat) : 0 < fLow i := Nat.two_pow_pos _

theorem fLow_le {i : Nat} (h0 : 0 < i) (h : i < 2 ^ 64) : fLow i ≤ i := by
  obtain ⟨m, hm⟩ := ctz_odd h0 h
  have h2 : fLow i * 1 ≤ fLow i * (2 * m + 1) := Nat.mul_le_mul_left _ (by omega)
  omega

/-- An odd number times a power of two: this power is its lowest bit. -/
theorem pow_odd_unique : ∀ (a b m n : Nat), 2 ^ a * (2 * m + 1) = 2 ^ b * (2 * n + 1) → a = b := by
  intro a
  induction a with
  | zero =>
    intro b m n h
    cases b with
    | zero => rfl
    | succ b => rw [Nat.pow_succ, Nat.mul_right_comm] at h; omega
  | succ a ih =>
    intro b m n h
    cases b with
    | zero => rw [Nat.pow_succ, Nat.mul_right_comm] at h; omega
    | succ b =>
      rw [Nat.pow_succ, Nat.pow_succ, Nat.mul_right_comm, Nat.mul_right_comm (2 ^ b)] at h
      rw [ih b m n (by omega)]

theorem fLow_of {i k m : Nat} (h : i < 2 ^ 64) (e : i = 2 ^ k * (2 * m + 1)) : fLow i = 2 ^ k := by
  have h0 : 0 < i := by rw [e]; exact Nat.mul_pos (Nat.two_pow_pos _) (by omega)
  obtain ⟨n, hn⟩ := ctz_odd h0 h
  have : Lib.ctz 64 i = k := pow_odd_unique _ _ n m (by rw [← e]; exact hn.symm)
  unfold fLow; rw [this]

/-- Below its lowest bit a place's lower bits are those of what is added. -/
theorem fLow_add {q r k : Nat} (hq : 2 ^ k ∣ q) (h0 : 0 < r) (hr : r < 2 ^ k) (h : q + r < 2 ^ 64) : fLow (q + r) = fLow r := by
  have hr64 : r < 2 ^ 64 := by omega
  obtain ⟨m, hm⟩ := ctz_odd h0 hr64
  obtain ⟨t, rfl⟩ := hq
  have hlt : Lib.ctz 64 r < k := by
    have h1 := fLow_le h0 hr64
    have h2 : 2 ^ Lib.ctz 64 r < 2 ^ k := Nat.lt_of_le_of_lt h1 hr
    exact (Nat.pow_lt_pow_iff_right (by omega)).1 h2
  obtain ⟨d, rfl⟩ : ∃ d, k = Lib.ctz 64 r + d + 1 := ⟨k - Lib.ctz 64 r - 1, by omega⟩
  generalize hc : Lib.ctz 64 r = c at *
  have hl : fLow r = 2 ^ c := by unfold fLow; rw [hc]
  rw [hl] at hm ⊢
  refine fLow_of (m := 2 ^ d * t + m) h ?_
  have e1 : 2 ^ (c + d + 1) * t = 2 ^ c * (2 * (2 ^ d * t)) := by
    rw [Nat.pow_succ, Nat.pow_add]; simp only [Nat.mul_assoc, Nat.mul_left_comm, Nat.mul_comm]
  rw [e1]; conv => lhs; rw [hm]
  rw [← Nat.mul_add]; congr 1; omega

/-- Of places between one and the next above it, none has it among its own. -/
theorem up_between {q j : Nat} (h0 : 0 < q) (h1 : q < j) (h2 : j < q + fLow q) (h : j < 2 ^ 64) : q ≤ j - fLow j := by
  obtain ⟨m, hm⟩ := ctz_odd h0 (by omega)
  have e : fLow j = fLow (j - q) := by
    have := fLow_add (q := q) (r := j - q) (k := Lib.ctz 64 q) ⟨2 * m + 1, hm⟩ (by omega) (by unfold fLow at h2; omega) (by omega)
    rw [← this]; congr 1; omega
  have := fLow_le (i := j - q) (by omega) (by omega)
  omega

/-- From the next one on, a place has both among its own, or none. -/
theorem up_beyond {q j : Nat} (h0 : 0 < q) (h2 : q + fLow q ≤ j) (h : j < 2 ^ 64) (hs : j - fLow j < q + fLow q) : j - fLow j < q := by
  have hj0 : 0 < j := by omega
  obtain ⟨m, hm⟩ := ctz_odd h0 (by omega)
  obtain ⟨n, hn⟩ := ctz_odd hj0 h
  have hlj := fLow_le hj0 h
  generalize hS : j - fLow j = s at *
  unfold fLow at *
  generalize Lib.ctz 64 q = a at *
  generalize Lib.ctz 64 j = k at *
  have es : s = 2 ^ (k + 1) * n := by
    have : 2 ^ k * (2 * n + 1) = 2 ^ (k + 1) * n + 2 ^ k := by rw [Nat.pow_succ, Nat.mul_add, Nat.mul_assoc]; omega
    omega
  refine Classical.byContradiction fun hc => ?_
  have hc : q ≤ s := by omega
  by_cases hk : k + 1 ≤ a
  · obtain ⟨d, rfl⟩ : ∃ d, a = k + 1 + d := ⟨a - (k + 1), by omega⟩
    have dv : 2 ^ (k + 1) ∣ q + 2 ^ (k + 1 + d) - s := by
      refine Nat.dvd_sub (Nat.dvd_add ?_ ?_) ⟨n, es⟩
      · exact ⟨2 ^ d * (2 * m + 1), by rw [← Nat.mul_assoc, ← Nat.pow_add]; exact hm⟩
      · exact ⟨2 ^ d, by rw [Nat.pow_add]⟩
    have := Nat.le_of_dvd (by omega) dv
    have hp : 2 ^ (k + 1) = 2 * 2 ^ k := by rw [Nat.pow_succ, Nat.mul_comm]
    have := Nat.two_pow_pos k
    omega
  · obtain ⟨d, rfl⟩ : ∃ d, k = a + d := ⟨k - a, by omega⟩
    have da : 2 ^ a ∣ s - q := by
      refine Nat.dvd_sub ⟨2 * (2 ^ d * n), ?_⟩ ⟨_, hm⟩
      rw [es, Nat.pow_succ, Nat.pow_add]; simp only [Nat.mul_left_comm, Nat.mul_comm]
    have hsq : s - q = 0 := Nat.eq_zero_of_dvd_of_lt da (by omega)
    have e2 : 2 ^ a * (2 * m + 1) = 2 ^ a * (2 * (2 ^ d * n)) := by
      have e3 : 2 ^ (a + d + 1) * n = 2 ^ a * (2 * (2 ^ d * n)) := by rw [Nat.pow_succ, Nat.pow_add]; simp only [Nat.mul_left_comm, Nat.mul_comm]
      rw [← e3, ← es, ← hm]; omega
    have := Nat.eq_of_mul_eq_mul_left (Nat.two_pow_pos a) e2
    omega

/-- A sum, a count behind it. -/
theorem fPre_succ (c : List Int) (k : Nat) (h : k < c.length) : fPre c (k + 1) = fPre c k + c[k] := by
  unfold fPre; rw [List.take_add_one, List.getElem?_eq_getElem h, List.sum_append]; simp
theorem fPre_zero (c : List Int) : fPre c 0 = 0 := by simp [fPre]
theorem fPre_most (c : List Int) {k : Nat} (h : c.length ≤ k) : fPre c k = c.sum := by unfold fPre; rw [List.take_of_length_le h]

/-- A count that is d more. -/
theorem fPre_set (c : List Int) (i : Nat) (h : i < c.length) (d : Int) : ∀ k, fPre (c.set i (c[i] + d)) k = fPre c k + if i < k then d else 0 := by
  intro k
  induction k with
  | zero => simp [fPre_zero]
  | succ k ih =>
    by_cases hk : k < c.length
    · rw [fPre_succ _ _ (by simpa using hk), fPre_succ _ _ hk, ih, List.getElem_set]
      by_cases e : i = k
      · subst e; simp; omega
      · rw [if_neg e]; by_cases h1 : i < k
        · rw [if_pos h1, if_pos (by omega)]; omega
        · rw [if_neg h1, if_neg (by omega)]; omega
    · have e1 := fPre_most (c.set i (c[i] + d)) (k := k) (by simp; omega)
      have e2 := fPre_most (c.set i (c[i] + d)) (k := k + 1) (by simp; omega)
      have e3 := fPre_most c (k := k) (by omega)
      have e4 := fPre_most c (k := k + 1) (by omega)
      rw [e2, ← e1, e4, ← e3, ih, if_pos (by omega), if_pos (by omega)]

/-- What of it a place of the tree has. -/
theorem fNode_set (c : List Int) (p : Nat) (h : p < c.length) (d : Int) (j : Nat) :
    fNode (c.set p (c[p] + d)) j = fNode c j + if j - fLow j < p + 1 ∧ p + 1 ≤ j then d else 0 := by
  unfold fNode; rw [fPre_set, fPre_set]
  by_cases h1 : p < j
  · by_cases h2 : p < j - fLow j
    · rw [if_pos h1, if_pos h2, if_neg (by omega)]; omega
    · rw [if_pos h1, if_neg h2, if_pos (by omega)]; omega
  · rw [if_neg h1, if_neg (by omega), if_neg (by omega)]; omega

/-- No count is below 0: sums grow. -/
theorem fPre_mono {c : List Int} (hc : ∀ x ∈ c, 0 ≤ x) {a b : Nat} (h : a ≤ b) : fPre c a ≤ fPre c b := by
  obtain ⟨d, rfl⟩ : ∃ d, b = a + d := ⟨b - a, by omega⟩
  clear h
  induction d with
  | zero => exact Int.le_refl _
  | succ d ih =>
    refine Int.le_trans ih ?_
    rw [← Nat.add_assoc]
    by_cases hk : a + d < c.length
    · rw [fPre_succ _ _ hk]; have := hc _ (List.getElem_mem hk); omega
    · rw [fPre_most c (k := a + d) (by omega), fPre_most c (k := a + d + 1) (by omega)]; exact Int.le_refl _

/-- The search by halves: a place behind a multiple of twice a power of two has this power as its lowest bit. -/
theorem fLow_half {p k : Nat} (hp : 2 ^ (k + 1) ∣ p) (h : p + 2 ^ k < 2 ^ 64) : fLow (p + 2 ^ k) = 2 ^ k := by
  obtain ⟨t, rfl⟩ := hp
  refine fLow_of (m := t) h ?_
  rw [Nat.pow_succ, Nat.mul_add, Nat.mul_assoc]; omega
theorem fNode_half (c : List Int) {p k : Nat} (hp : 2 ^ (k + 1) ∣ p) (h : p + 2 ^ k < 2 ^ 64) : fNode c (p + 2 ^ k) = fPre c (p + 2 ^ k) - fPre c p := by
  unfold fNode; rw [fLow_half hp h, Nat.add_sub_cancel]

/-- Each half of it, rounded up. -/
def fHalf (c : List Int) : List Int := c.map fun x => (x + 1) / 2
theorem fHalf_nn {c : List Int} (hc : ∀ x ∈ c, 0 ≤ x) : ∀ x ∈ fHalf c, 0 ≤ x := by
  intro x hx; obtain ⟨y, hy, rfl⟩ := List.mem_map.1 hx; have := hc y hy; omega
theorem fHalf_sum {c : List Int} (hc : ∀ x ∈ c, 0 ≤ x) : (fHalf c).sum ≤ c.sum := by
  induction c with
  | nil => simp [fHalf]
  | cons a c ih =>
    have h1 := ih fun x hx => hc x (List.mem_cons_of_mem _ hx)
    have h2 := hc a List.mem_cons_self
    simp only [fHalf, List.map_cons, List.sum_cons] at h1 ⊢; omega
theorem fHalf_length (c : List Int) : (fHalf c).length = c.length := by simp [fHalf]
theorem fHalf_one {c : List Int} (hc : ∀ x ∈ c, 1 ≤ x) : ∀ x ∈ fHalf c, 1 ≤ x := by
  intro x hx; obtain ⟨y, hy, rfl⟩ := List.mem_map.1 hx; have := hc y hy; omega
/-- Where none is below 1, and they are more than as many: halves are fewer. -/
theorem fHalf_less {c : List Int} (hc : ∀ x ∈ c, 1 ≤ x) (h : (c.length : Int) < c.sum) : (fHalf c).sum < c.sum := by
  have key : ∀ c : List Int, (∀ x ∈ c, 1 ≤ x) → 2 * (fHalf c).sum ≤ c.sum + c.length := by
    intro c
    induction c with
    | nil => intro _; simp [fHalf]
    | cons a c ih =>
      intro hc
      have h1 := ih fun x hx => hc x (List.mem_cons_of_mem _ hx)
      simp only [fHalf, List.map_cons, List.sum_cons, List.length_cons] at h1 ⊢; omega
  have := key c hc
  omega

/-- Which one a number falls into. -/
def fFind (c : List Int) (v : Int) : Option Nat := if v < 0 then none else (List.range c.length).find? fun i => decide (v < fPre c (i + 1))
theorem fFind_some {c : List Int} (hc : ∀ x ∈ c, 0 ≤ x) {v : Int} {r : Nat} (hv : 0 ≤ v) (hr : r < c.length) (h1 : fPre c r ≤ v) (h2 : v < fPre c (r + 1)) : fFind c v = some r := by
  unfold fFind; rw [if_neg (by omega), List.find?_range_eq_some]
  refine ⟨by simpa using h2, by simpa using hr, ?_⟩
  intro j hj
  have := fPre_mono hc (a := j + 1) (b := r) (by omega)
  simp; omega
theorem fFind_none {c : List Int} (hc : ∀ x ∈ c, 0 ≤ x) {v : Int} (h : v < 0 ∨ c.sum ≤ v) : fFind c v = none := by
  unfold fFind
  by_cases hv : v < 0
  · rw [if_pos hv]
  · rw [if_neg hv, List.find?_eq_none]
    intro j hj
    have hj : j < c.length := by simpa using hj
    have := fPre_mono hc (a := j + 1) (b := c.length) (by omega)
    rw [fPre_most c (Nat.le_refl _)] at this
    simp; omega

/-- The search by halves, from a place on. -/
def fSeek (c : List Int) (v : Int) : Nat → Nat → Nat
  | 0, p => p
  | k + 1, p => if p + 2 ^ k ≤ c.length ∧ fPre c (p + 2 ^ k) ≤ v then fSeek c v k (p + 2 ^ k) else fSeek c v k p
theorem fSeek_spec (c : List Int) (v : Int) : ∀ (k p : Nat), p ≤ c.length → fPre c p ≤ v → (c.length < p + 2 ^ k ∨ v < fPre c (p + 2 ^ k)) →
    fSeek c v k p ≤ c.length ∧ fPre c (fSeek c v k p) ≤ v ∧ (fSeek c v k p = c.length ∨ v < fPre c (fSeek c v k p + 1)) := by
  intro k
  induction k with
  | zero =>
    intro p h1 h2 h3
    refine ⟨h1, h2, ?_⟩
    rcases h3 with h | h
    · exact .inl (by simp only [fSeek]; omega)
    · exact .inr (by simpa [fSeek] using h)
  | succ k ih =>
    intro p h1 h2 h3
    have e : p + 2 ^ (k + 1) = p + 2 ^ k + 2 ^ k := by rw [Nat.pow_succ]; omega
    unfold fSeek
    by_cases hq : p + 2 ^ k ≤ c.length ∧ fPre c (p + 2 ^ k) ≤ v
    · rw [if_pos hq]; exact ih _ hq.1 hq.2 (e ▸ h3)
    · rw [if_neg hq]; refine ih _ h1 h2 ?_
      by_cases h : p + 2 ^ k ≤ c.length
      · exact .inr (by have : ¬ fPre c (p + 2 ^ k) ≤ v := fun x => hq ⟨h, x⟩
                       omega)
      · exact .inl (by omega)
/-- What the search by halves comes to is what is asked for. -/
theorem fSeek_find {c : List Int} (hc : ∀ x ∈ c, 0 ≤ x) {v : Int} {k : Nat} (h0 : 0 ≤ v) (hv : v < c.sum) (hk : c.length < 2 ^ k) : fFind c v = some (fSeek c v k 0) ∧ fSeek c v k 0 < c.length := by
  obtain ⟨h1, h2, h3⟩ := fSeek_spec c v k 0 (by omega) (by rw [fPre_zero]; exact h0) (.inl (by omega))
  have hlt : fSeek c v k 0 < c.length := by
    refine Nat.lt_of_le_of_ne h1 fun e => ?_
    rw [e, fPre_most c (Nat.le_refl _)] at h2; omega
  rcases h3 with h | h
  · omega
  · exact ⟨fFind_some hc h0 hlt h2 h, hlt⟩
/-- What was found lies where it should. -/
theorem fFind_in {c : List Int} {v : Int} {r : Nat} (h : fFind c v = some r) : 0 ≤ v ∧ r < c.length ∧ v < fPre c (r + 1) ∧ fPre c r ≤ v := by
  unfold fFind at h
  by_cases hv : v < 0
  · rw [if_pos hv] at h; cases h
  · rw [if_neg hv, List.find?_range_eq_some] at h
    obtain ⟨h1, h2, h3⟩ := h
    refine ⟨by omega, by simpa using h2, by simpa using h1, ?_⟩
    cases r with
    | zero => rw [fPre_zero]; omega
    | succ r => have := h3 r (by omega); simp at this; omega
end Go.Proofs.YtflcmmeoppdhdaaGreat
namespace Go.Proofs.YtflcmmeoppdhdaaGreat

/-- What of the first k places is added to place j. -/
def fKids (c : List Int) (j : Nat) : Nat → Int
  | 0 => 0
  | k + 1 => fKids c j k + if (k + 1) + fLow (k + 1) = j then fNode c (k + 1) else 0

theorem fKids_none (c : List Int) (j : Nat) : ∀ k k', k ≤ k' → (∀ q, k < q → q ≤ k' → q + fLow q ≠ j) → fKids c j k' = fKids c j k := by
  intro k k' h
  obtain ⟨d, rfl⟩ : ∃ d, k' = k + d := ⟨k' - k, by omega⟩
  clear h
  induction d with
  | zero => intro _; rfl
  | succ d ih =>
    intro hq
    show fKids c j (k + d) + (if k + d + 1 + fLow (k + d + 1) = j then fNode c (k + d + 1) else 0) = _
    rw [if_neg (hq (k + d + 1) (by omega) (by omega)), ih fun q h1 h2 => hq q h1 (by omega), Int.add_zero]

theorem fLow_pow (i : Nat) : ∃ s, fLow i = 2 ^ s := ⟨_, rfl⟩

theorem fLow_sub {j t : Nat} (h0 : 0 < j) (h : j < 2 ^ 64) (ht : 2 ^ t < fLow j) : fLow (j - 2 ^ t) = 2 ^ t := by
  obtain ⟨m, hm⟩ := ctz_odd h0 h
  obtain ⟨a, ha⟩ := fLow_pow j
  rw [ha] at hm ht
  have hta : t < a := (Nat.pow_lt_pow_iff_right (by omega)).1 ht
  obtain ⟨d, rfl⟩ : ∃ d, a = t + d + 1 := ⟨a - t - 1, by omega⟩
  obtain ⟨x, hx⟩ : ∃ x, 2 ^ d * (2 * m + 1) = x + 1 := ⟨2 ^ d * (2 * m + 1) - 1, by have := Nat.mul_pos (Nat.two_pow_pos d) (show 0 < 2 * m + 1 by omega); omega⟩
  refine fLow_of (m := x) (Nat.lt_of_le_of_lt (Nat.sub_le ..) h) ?_
  have e : 2 ^ (t + d + 1) * (2 * m + 1) = 2 ^ t * (2 * (x + 1)) := by
    rw [← hx, Nat.pow_succ, Nat.pow_add]; simp only [Nat.mul_left_comm, Nat.mul_comm]
  rw [hm, e, show 2 * (x + 1) = 2 * x + 1 + 1 by omega, Nat.mul_add (2 ^ t) (2 * x + 1) 1]
  omega

/-- All that is added to a place: what is ahead of it among its own. -/
theorem fKids_all (c : List Int) {j : Nat} (h0 : 0 < j) (h : j < 2 ^ 64) : fKids c j (j - 1) = fPre c (j - 1) - fPre c (j - fLow j) := by
  obtain ⟨a, ha⟩ := fLow_pow j
  have hle := fLow_le h0 h
  have first : fKids c j (j - fLow j) = 0 := by
    refine fKids_none c j 0 _ (Nat.zero_le _) fun q h1 h2 e => ?_
    have hq := fLow_pos q
    have := up_beyond (q := q) (j := j) h1 (by omega) h (by have := fLow_pos j; omega)
    omega
  have key : ∀ t, t ≤ a → fKids c j (j - 2 ^ (a - t)) = fPre c (j - 2 ^ (a - t)) - fPre c (j - fLow j) := by
    intro t
    induction t with
    | zero => intro _; rw [Nat.sub_zero, ← ha, first]; omega
    | succ t ih =>
      intro ht
      have ih := ih (by omega)
      obtain ⟨s, hs⟩ : ∃ s, a - (t + 1) = s := ⟨_, rfl⟩
      rw [hs]
      have hs1 : a - t = s + 1 := by omega
      rw [hs1] at ih
      have hp : 2 ^ (s + 1) = 2 ^ s + 2 ^ s := by rw [Nat.pow_succ]; omega
      have hpos := Nat.two_pow_pos s
      have hsa : 2 ^ (s + 1) ≤ 2 ^ a := Nat.pow_le_pow_right (by omega) (by omega)
      have hlow := fLow_sub h0 h (t := s) (by rw [ha]; omega)
      obtain ⟨q, hq⟩ : ∃ q, j - 2 ^ s = q + 1 := ⟨j - 2 ^ s - 1, by omega⟩
      rw [hq] at hlow
      have hmid : fKids c j q = fKids c j (j - 2 ^ (s + 1)) := by
        refine fKids_none c j _ _ (by omega) fun r h1 h2 e => ?_
        obtain ⟨u, hu⟩ := fLow_pow r
        have g1 : 2 ^ s < 2 ^ u := by omega
        have g2 : 2 ^ u < 2 ^ (s + 1) := by omega
        have := (Nat.pow_lt_pow_iff_right (a := 2) (by omega)).1 g1
        have := (Nat.pow_lt_pow_iff_right (a := 2) (by omega)).1 g2
        omega
      rw [hq]
      show fKids c j q + _ = _
      rw [if_pos (by rw [hlow]; omega), hmid, ih]
      unfold fNode
      rw [hlow, show q + 1 - 2 ^ s = j - 2 ^ (s + 1) by omega]
      omega
  have := key a (Nat.le_refl _)
  rwa [Nat.sub_self, Nat.pow_zero] at this

theorem fKids_most (c : List Int) {j k : Nat} (h : j - 1 ≤ k) (hj : 0 < j) : fKids c j k = fKids c j (j - 1) :=
  fKids_none c j _ _ h fun q h1 _ => by have := fLow_pos q; omega

/-- Place j, when the first k have been added. -/
def bAt (c : List Int) (k j : Nat) : Int := if j = 0 then 0 else c.getD (j - 1) 0 + fKids c j k
theorem bAt_most (c : List Int) {j k : Nat} (h : j ≤ k + 1) (h1 : j ≤ c.length) (h64 : c.length < 2 ^ 64) : bAt c k j = fNode c j := by
  unfold bAt
  by_cases h0 : j = 0
  · subst h0; simp [fNode, fPre_zero]
  · obtain ⟨i, rfl⟩ : ∃ i, j = i + 1 := ⟨j - 1, by omega⟩
    rw [if_neg h0, fKids_most c (by omega) (by omega), fKids_all c (by omega) (by omega)]
    unfold fNode
    rw [fPre_succ c i (by omega)]
    simp [List.getD_eq_getElem?_getD, List.getElem?_eq_getElem (show i < c.length by omega)]
    omega

theorem fNode_nn {c : List Int} (hc : ∀ x ∈ c, 0 ≤ x) (j : Nat) : 0 ≤ fNode c j := by
  unfold fNode; have := fPre_mono hc (a := j - fLow j) (b := j) (by omega); omega
theorem fPre_nn {c : List Int} (hc : ∀ x ∈ c, 0 ≤ x) (j : Nat) : 0 ≤ fPre c j := by
  have := fPre_mono hc (Nat.zero_le j); rwa [fPre_zero] at this
theorem fPre_le {c : List Int} (hc : ∀ x ∈ c, 0 ≤ x) (j : Nat) : fPre c j ≤ c.sum := by
  rcases Nat.le_total c.length j with h | h
  · rw [fPre_most c h]; exact Int.le_refl _
  · have := fPre_mono hc h; rwa [fPre_most c (Nat.le_refl _)] at this
theorem fNode_le {c : List Int} (hc : ∀ x ∈ c, 0 ≤ x) (j : Nat) : fNode c j ≤ c.sum := by
  unfold fNode; have := fPre_le hc j; have := fPre_nn hc (j - fLow j); omega
theorem fKids_mono {c : List Int} (hc : ∀ x ∈ c, 0 ≤ x) (j : Nat) {k k' : Nat} (h : k ≤ k') : fKids c j k ≤ fKids c j k' := by
  obtain ⟨d, rfl⟩ : ∃ d, k' = k + d := ⟨k' - k, by omega⟩
  clear h
  induction d with
  | zero => exact Int.le_refl _
  | succ d ih =>
    refine Int.le_trans ih ?_
    show _ ≤ fKids c j (k + d) + (if k + d + 1 + fLow (k + d + 1) = j then fNode c (k + d + 1) else 0)
    have := fNode_nn hc (k + d + 1)
    split <;> omega
theorem getD_nn {c : List Int} (hc : ∀ x ∈ c, 0 ≤ x) (j : Nat) : 0 ≤ c.getD j 0 := by
  rcases Nat.lt_or_ge j c.length with h | h
  · simp [List.getD_eq_getElem?_getD, List.getElem?_eq_getElem h]; exact hc _ (List.getElem_mem h)
  · simp [List.getD_eq_getElem?_getD, List.getElem?_eq_none h]
theorem bAt_nn {c : List Int} (hc : ∀ x ∈ c, 0 ≤ x) (k j : Nat) : 0 ≤ bAt c k j := by
  unfold bAt
  split
  · exact Int.le_refl _
  · have := getD_nn hc (j - 1)
    have := fKids_mono hc j (Nat.zero_le k)
    simp only [fKids] at this
    omega
theorem bAt_le {c : List Int} (hc : ∀ x ∈ c, 0 ≤ x) (h64 : c.length < 2 ^ 64) {k j : Nat} (h1 : j ≤ c.length) : bAt c k j ≤ c.sum := by
  by_cases h : j ≤ k + 1
  · rw [bAt_most c h h1 h64]; exact fNode_le hc j
  · have e := bAt_most c (j := j) (k := j - 1) (by omega) h1 h64
    have := fNode_le hc j
    have := fKids_mono hc j (k := k) (k' := j - 1) (by omega)
    unfold bAt at e ⊢
    rw [if_neg (by omega)] at e ⊢
    omega
theorem bAt_succ (c : List Int) (k j : Nat) (hj : 0 < j) : bAt c (k + 1) j = bAt c k j + if (k + 1) + fLow (k + 1) = j then fNode c (k + 1) else 0 := by
  unfold bAt; rw [if_neg (by omega), if_neg (by omega)]; show _ + (fKids c j k + _) = _; omega

/-- All places, when the first k have been added. -/
def bRow (c : List Int) (k : Nat) : List Int := (List.range (c.length + 1)).map (bAt c k)
/-- The tree. -/
def fRow (c : List Int) : List Int := (List.range (c.length + 1)).map (fNode c)
theorem bRow_len (c : List Int) (k : Nat) : (bRow c k).length = c.length + 1 := by simp [bRow]
theorem fRow_len (c : List Int) : (fRow c).length = c.length + 1 := by simp [fRow]
theorem bRow_get (c : List Int) (k j : Nat) (h : j ≤ c.length) : (bRow c k)[j]? = some (bAt c k j) := by
  unfold bRow; rw [List.getElem?_map, List.getElem?_range (by omega)]; rfl
theorem fRow_get (c : List Int) (j : Nat) (h : j ≤ c.length) : (fRow c)[j]? = some (fNode c j) := by
  unfold fRow; rw [List.getElem?_map, List.getElem?_range (by omega)]; rfl
theorem bRow_zero (c : List Int) : bRow c 0 = 0 :: c := by
  refine List.ext_getElem? fun i => ?_
  rcases Nat.lt_or_ge i (c.length + 1) with h | h
  · rw [bRow_get c 0 i (by omega)]
    cases i with
    | zero => rfl
    | succ i => simp [bAt, fKids, List.getD_eq_getElem?_getD, List.getElem?_eq_getElem (show i < c.length by omega)]
  · rw [List.getElem?_eq_none (by rw [bRow_len]; exact h), List.getElem?_eq_none (by simpa using h)]
theorem bRow_most (c : List Int) (h64 : c.length < 2 ^ 64) : bRow c c.length = fRow c := by
  refine List.map_congr_left fun j hj => ?_
  have := List.mem_range.1 hj
  exact bAt_most c (by omega) (by omega) h64
theorem bRow_here (c : List Int) (k : Nat) (h : k + 1 ≤ c.length) (h64 : c.length < 2 ^ 64) : bAt c k (k + 1) = fNode c (k + 1) ∧ bAt c (k + 1) (k + 1) = fNode c (k + 1) :=
  ⟨bAt_most c (Nat.le_refl _) h h64, bAt_most c (by omega) h h64⟩
/-- A place is added. -/
theorem bRow_step (c : List Int) (k : Nat) : bRow c (k + 1) = if (k + 1) + fLow (k + 1) ≤ c.length then (bRow c k).set ((k + 1) + fLow (k + 1)) (bAt c k ((k + 1) + fLow (k + 1)) + fNode c (k + 1)) else bRow c k := by
  refine List.ext_getElem? fun i => ?_
  rcases Nat.lt_or_ge i (c.length + 1) with h | h
  · rw [bRow_get c _ i (by omega)]
    by_cases hi : i = 0
    · subst hi
      have e : bAt c (k + 1) 0 = bAt c k 0 := by simp [bAt]
      rw [e]
      split
      · rw [List.getElem?_set_ne (by omega), bRow_get c k 0 (by omega)]
      · rw [bRow_get c k 0 (by omega)]
    · rw [bAt_succ c k i (by omega)]
      by_cases he : (k + 1) + fLow (k + 1) = i
      · rw [if_pos he, if_pos (by omega), he, List.getElem?_set_self (by rw [bRow_len]; exact h)]
      · rw [if_neg he, Int.add_zero]
        split
        · rw [List.getElem?_set_ne he, bRow_get c k i (by omega)]
        · rw [bRow_get c k i (by omega)]
  · rw [List.getElem?_eq_none (by rw [bRow_len]; exact h)]
    split
    · rw [List.getElem?_eq_none (by rw [List.length_set, bRow_len]; exact h)]
    · rw [List.getElem?_eq_none (by rw [bRow_len]; exact h)]
/-- A place is taken away again. -/
theorem bRow_back (c : List Int) (k : Nat) : bRow c k = if (k + 1) + fLow (k + 1) ≤ c.length then (bRow c (k + 1)).set ((k + 1) + fLow (k + 1)) (bAt c (k + 1) ((k + 1) + fLow (k + 1)) - fNode c (k + 1)) else bRow c (k + 1) := by
  have e := bRow_step c k
  split
  · rename_i h
    rw [if_pos h] at e
    rw [e, List.set_set, bAt_succ c k _ (by omega), if_pos rfl]
    refine List.ext_getElem? fun i => ?_
    by_cases hi : (k + 1) + fLow (k + 1) = i
    · rw [← hi, List.getElem?_set_self (by rw [bRow_len]; omega), bRow_get c k _ h]; congr 1; omega
    · rw [List.getElem?_set_ne hi]
  · rename_i h
    rw [if_neg h] at e; exact e.symm
end Go.Proofs.YtflcmmeoppdhdaaGreat
namespace Go.Proofs.YtflcmmeoppdhdaaGreat
open Go.RowKit Go.Sort

/-- Numbers as cells. -/
def zvs (l : List Int) : List Value := l.map (Value.int .i64)
theorem zvs_length (l : List Int) : (zvs l).length = l.length := by simp [zvs]
theorem zvs_get (l : List Int) (k : Nat) : (zvs l)[k]? = l[k]?.map (Value.int .i64) := by simp [zvs]
theorem zvs_set (l : List Int) (k : Nat) (x : Int) : (zvs l).set k (.int .i64 x) = zvs (l.set k x) := by simp [zvs, List.map_set]
/-- A quiet call in a region that draws its order. -/
theorem quietOf {P : Program} {f : FuncId} {args : Array Value} {w : World} {m : Nat} {v : Value} (h : ∀ W' : World, W'.heap = w.heap → Calls P f args W' fun e w' => e = .returned v ∧ w' = W') :
    Calls P f args (w.drewN m) fun e w'' => e = .returned v ∧ ∃ j, w'' = w.drewN j := (h (w.drewN m) rfl).mono fun _ _ h => ⟨h.1, m, h.2⟩
theorem Blk.same {w w' : World} {g : Nat} {t : TypeId} {cs : List Value} (h : Blk w g t cs) (e : w'.heap = w.heap) : Blk w' g t cs := by unfold Blk; rw [e]; exact h
theorem info_int12 : (Tryz.prog.info? 3).map (fun i => (i.zero, i.size, i.bytes)) = some (some (.int .i64 0), 1, 8) := by kernel_rfl
theorem below_drawn (w : World) (k : Nat) : Below w.heap.size w (w.drewN k) := ⟨rfl, rfl, rfl, Nat.le_refl _, fun _ _ => rfl⟩
theorem rd_same {w w' : World} {N : Nat} {A : Option Addr} {xs : List Value} (h : Rd w N A xs) (e : w'.heap = w.heap) : Rd w' N A xs := h.keep fun p _ => World.cell?_of_block (by rw [e])
theorem blk_row {W W' : World} {row : Option Nat} {g : Nat} {t : TypeId} {cs : List Value} (h : Blk W g t cs) (hg : W.grownBy W' row) (hne : ∀ r, row = some r → r ≠ g) : Blk W' g t cs := (hg.block g h.lt (fun e => hne g e.symm rfl)).trans h
theorem sum_nn12 {c : List Int} (hc : ∀ x ∈ c, 0 ≤ x) : 0 ≤ c.sum := by have := fPre_nn hc c.length; rwa [fPre_most c (Nat.le_refl _)] at this
theorem own_ne {w : World} {B M n : Nat} {v : Value} {xs : List Value} {t : TypeId} {cs : List Value} (h : Blk w M t cs) (ho : w.ownsRow B 3 1 v n xs) (hne : t ≠ 3) : ∀ r, v.ownBlock = some r → r ≠ M := fun r e => by
  have h2 := (own_type ho r e).2
  intro e2
  subst e2
  exact (h.ofType.ne hne) h2
theorem le_sum12 {c : List Int} (hc : ∀ x ∈ c, 0 ≤ x) {i : Nat} (hi : i < c.length) : c[i] ≤ c.sum := by
  have h1 := fPre_succ c i hi
  have h2 := fPre_le hc (i + 1)
  have h3 := fPre_nn hc i
  omega
theorem own_drew {w : World} {base e size n : Nat} {v : Value} {xs : List Value} (h : w.ownsRow base e size v n xs) : w.drew.ownsRow base e size v n xs := h
/-- Of all that lay, T and S alone have turned. -/
structure TurnsB (T S : Nat) (w w' : World) : Prop where
  os : w'.os = w.os
  tape : w'.tape = w.tape
  output : w'.output = w.output
  size : w.heap.size ≤ w'.heap.size
  block : ∀ k, k < w.heap.size → k ≠ T → k ≠ S → w'.heap[k]? = w.heap[k]?
section
variable {T S : Nat} {w w' w'' : World}
theorem TurnsB.refl (T S : Nat) (w : World) : TurnsB T S w w := ⟨rfl, rfl, rfl, Nat.le_refl _, fun _ _ _ _ => rfl⟩
theorem TurnsB.trans (h : TurnsB T S w w') (k : TurnsB T S w' w'') : TurnsB T S w w'' :=
  ⟨k.os.trans h.os, k.tape.trans h.tape, k.output.trans h.output, Nat.le_trans h.size k.size, fun i hi h1 h2 => (k.block i (Nat.lt_of_lt_of_le hi h.size) h1 h2).trans (h.block i hi h1 h2)⟩
theorem TurnsB.drew (h : TurnsB T S w w') : TurnsB T S w w'.drew := ⟨h.os, h.tape, h.output, h.size, h.block⟩
theorem TurnsB.of_below (h : Below w.heap.size w w') : TurnsB T S w w' := ⟨h.os, h.tape, h.output, h.size, fun k hk _ _ => h.block k hk⟩
theorem TurnsB.grown {row : Option Nat} (h : w.grownBy w' row) (hr : ∀ r, row = some r → r = T ∨ r = S) : TurnsB T S w w' :=
  ⟨h.os, h.tape, h.output, h.size, fun k hk h1 h2 => h.block k hk (fun e => by rcases hr k e.symm with e | e <;> omega)⟩
theorem TurnsB.below {B : Nat} (h : TurnsB T S w w') (hT : B ≤ T) (hS : B ≤ S) (hB : B ≤ w.heap.size) : Below B w w' :=
  ⟨h.os, h.tape, h.output, h.size, fun k hk => h.block k (by omega) (by omega) (by omega)⟩
theorem TurnsB.blk {g : Nat} {t : TypeId} {cs : List Value} (h : TurnsB T S w w') (hb : Blk w g t cs) (h1 : g ≠ T) (h2 : g ≠ S) : Blk w' g t cs := (h.block g hb.lt h1 h2).trans hb
end

/-- What is told of a number that falls into a letter, or into none. -/
def findV (o : Option Nat) : Value := match o with
  | none => .tuple #[.int .i64 0, .bool false]
  | some r => .tuple #[.int .i64 (r : Int), .bool true]
/-- Short numbers as cells. -/
def hvs (l : List Nat) : List Value := l.map fun (x : Nat) => Value.int .u16 (x : Int)
theorem hvs_get (l : List Nat) (k : Nat) (h : k < l.length) : (hvs l)[k]? = some (Value.int .u16 (l[k] : Int)) := by simp [hvs, h]
theorem hvs_set (l : List Nat) (k x : Nat) : (hvs l).set k (.int .u16 (x : Int)) = hvs (l.set k x) := by simp [hvs, List.map_set]
theorem TurnsB.set_ {w : World} {T S : Nat} (k : Nat) (v : Value) : TurnsB T S w (w.setCell ⟨S, k, none⟩ v) :=
  ⟨rfl, rfl, rfl, by simp [World.setCell], fun i _ _ h2 => Below.heap_setCell _ _ _ i h2⟩
theorem TurnsB.setT {w : World} {T S : Nat} (k : Nat) (v : Value) : TurnsB T S w (w.setCell ⟨T, k, none⟩ v) :=
  ⟨rfl, rfl, rfl, by simp [World.setCell], fun i _ h1 _ => Below.heap_setCell _ _ _ i h1⟩
theorem own_turns {T S : Nat} {x x' : World} {base e size : Nat} {v : Value} {xs : List Value} {k : Nat} (h : x.ownsRow base e size v k xs) (ht : TurnsB T S x x') (hT : T < base) (hS : S < base) : x'.ownsRow base e size v k xs := by
  refine ⟨h.1, ?_⟩
  rcases h.2 with h0 | ⟨g, cap, cur, rfl, hbg, hg, rest⟩
  · exact .inl h0
  · exact .inr ⟨g, cap, cur, rfl, hbg, by rw [ht.block g (Array.getElem?_eq_some_iff.1 hg).1 (by omega) (by omega)]; exact hg, rest⟩
theorem TurnsB.growO {T S : Nat} {w w' w'' : World} {row : Option Nat} (h : TurnsB T S w w') (hg : w'.grownBy w'' row) (hr : ∀ r, row = some r → w.heap.size ≤ r) : TurnsB T S w w'' :=
  ⟨hg.os.trans h.os, hg.tape.trans h.tape, hg.output.trans h.output, Nat.le_trans h.size hg.size, fun k hk h1 h2 => (hg.block k (Nat.lt_of_lt_of_le hk h.size) (fun e => by have := hr k e.symm; omega)).trans (h.block k hk h1 h2)⟩
theorem TurnsB.allocO {T S : Nat} {w w' : World} (h : TurnsB T S w w') (o : Obj) : TurnsB T S w (w'.alloc o) := h.growO (World.grownBy_alloc w' o none) (fun r e => by cases e)
theorem cell_of_rd {w : World} {B : Nat} {A : Option Addr} {c : List Int} (hr : Rd w B A (zvs c)) {k : Nat} (h : k < c.length) : ∃ b off, A = some ⟨b, off, none⟩ ∧ b < B ∧ w.cell? ⟨b, off + k, none⟩ = some (.int .i64 (c[k]'h)) :=
  hr k (.int .i64 (c[k]'h)) (by rw [zvs_get, List.getElem?_eq_getElem h]; rfl)
/-- make of n cells, as an equation. -/
theorem make_eqN {P : Program} {t e : TypeId} {i : TypeInfo} {z : Value} (ht : P.underlying t = some (.slice e)) (hi : P.info? e = some i) (hz : i.zero = some z) (hzs : z.cells = #[z]) (hsize : i.size = 1) (hby : i.bytes ≤ 8) (n : Nat) (hn : n ≤ 1000000) (w : World) :
    (Instr.makeSlice t (.int .i64 (n : Int)) (.int .i64 (n : Int))).run P w = .ok (.slice (some ⟨w.heap.size, 0, none⟩) n n) (w.alloc (.cells (List.replicate n z).toArray e)) := by
  have hbn : ((i.bytes * n : Nat) : Int) ≤ 281474976710656 := by have := Nat.mul_le_mul_right n hby; omega
  rw [Int.natCast_mul] at hbn
  have hrun := run_make (P := P) w t e i z ht hi hz .i64 .i64 n n (by omega) (Int.le_refl _) hbn (by omega)
  simp only [Int.toNat_natCast, hsize, Nat.mul_one, hzs] at hrun
  have hcells : madeCells #[z] n = (List.replicate n z).toArray := by
    apply Array.ext'; rw [toList_madeCells_one]
  rw [hcells] at hrun
  exact hrun
/-- A call that only draws, in a region that draws its order. -/
theorem quietD {P : Program} {f : FuncId} {args : Array Value} {w : World} {m : Nat} {v : Value} (h : ∀ W' : World, W'.heap = w.heap → Calls P f args W' fun e w' => e = .returned v ∧ ∃ j, w' = W'.drewN j) :
    Calls P f args (w.drewN m) fun e w'' => e = .returned v ∧ ∃ j, w'' = w.drewN j := (h (w.drewN m) rfl).mono fun _ _ h => ⟨h.1, by
    obtain ⟨j, hj⟩ := h.2
    exact ⟨m + j, by rw [hj, World.drewN_drewN]⟩⟩
theorem blk_ne {w : World} {g g' : Nat} {t t' : TypeId} {cs cs' : List Value} (h : Blk w g t cs) (h' : Blk w g' t' cs') (hne : t ≠ t') : g ≠ g' := by
  intro e
  subst e
  unfold Blk at h h'
  rw [h] at h'
  injection h' with h'
  injection h' with _ e _
  exact hne e
theorem below_drewn {w w' : World} {B j : Nat} (h : Below B w w') : Below B w (w'.drewN j) := ⟨h.os, h.tape, h.output, h.size, h.block⟩
end Go.Proofs.YtflcmmeoppdhdaaGreat
namespace Go.Proofs.YtflcmmeoppdhdaaGreat
open Go.RowKit Go.Sort

/-- Two counts, as a value. -/
def cntV (A N : Nat) : Value := .agg #[.int .u64 (A : Int), .int .u64 (N : Int)]
theorem isK_few {D A N k : Nat} (h : CountsOk D A N) (hk : IsK A N k) : k ≤ 33 := by
  refine Nat.le_of_not_lt fun hlt => ?_
  have h1 := hk.2 33 hlt
  obtain ⟨g1, g2, g3, g4⟩ := h
  rw [show (2 : Nat) ^ 33 = 8589934592 by decide] at h1
  omega
end Go.Proofs.YtflcmmeoppdhdaaGreat
namespace Go.Proofs.YtflcmmeoppdhdaaGreat
open Go.RowKit Go.Sort

theorem pcnt_size : (Tryz.prog.info? 325).map (·.size) = some 2 := by kernel_rfl
theorem pcnt_end {w' : World} {p : Nat} {tmps : Array Value} {fn : Func} {q : Tmp} (hres : fn.results = #[.cell q 325]) {v0 v1 : Value} (hp : tmps.getD q undef = .pointer (some ⟨p, 0, none⟩)) (hk : Blk w' p 325 [v0, v1]) : (results fn tmps).run Tryz.prog w' = .ok (.agg #[v0, v1]) w' :=
  results_cell_row hres tmps w' p 325 _ (0, 0) _ hp hk Tryz.underlying325 rfl pcnt_size
theorem riceFirst_any (w : World) : Calls Tryz.prog 281 #[] w fun e w' => e = .returned (cntV 16 1) ∧ Below w.heap.size w w' := by
  go_enter Tryz.func281, Tryz.ntmps281
  go_wp2
  exact bodyPost_ret (v := cntV 16 1) (pcnt_end Tryz.results281 rfl (heap_alloc_new w _)) rfl ⟨rfl, (Below.refl _ _).alloc (Nat.le_refl _) _⟩
/-- What holds at the head of a round of parameter. -/
def ParRel (w : World) (B A N k : Nat) (i : Value) (wr : World) : Prop :=
  ∃ j : Nat, j ≤ k ∧ i = .int .i64 (j : Int) ∧ Blk wr B 325 [.int .u64 (A : Int), .int .u64 (N : Int)] ∧ Below w.heap.size w wr
set_option maxHeartbeats 1000000 in
theorem ricePar_any {D A N k : Nat} (h : CountsOk D A N) (hk : IsK A N k) (w : World) :
    Calls Tryz.prog 288 #[cntV A N] w fun e w' => e = .returned (.int .i64 (k : Int)) ∧ Below w.heap.size w w' := by
  have hk33 := isK_few h hk
  have HK := Lib.hid hk
  have hN := h.2.1
  have hN1 := h.1
  have hA : A ≤ 133143986192 := by obtain ⟨g1, g2, g3, g4⟩ := h; omega
  have hb := (Below.refl w.heap.size w).alloc (Nat.le_refl _) (.cells #[.int .u64 (A : Int), .int .u64 (N : Int)] 325)
  have hbl : Blk (w.alloc (.cells #[.int .u64 (A : Int), .int .u64 (N : Int)] 325)) w.heap.size 325 [.int .u64 (A : Int), .int .u64 (N : Int)] := heap_alloc_new w _
  have HREL := Lib.hid (show ParRel w w.heap.size A N k (.int .i64 ((0 : Nat) : Int)) _ from ⟨0, Nat.zero_le _, rfl, hbl, hb⟩)
  clear h hk hb hbl
  unfold cntV
  go_enter Tryz.func288, Tryz.ntmps288
  go_wp2
  go_loopw [3] (ParRel w w.heap.size A N k) (fun i _ => k - (intOf i).toNat)
  case atStart => exact HREL.out
  case round =>
    clear HREL
    obtain ⟨j, hj, rfl, hbl, hb⟩ := hrel
    have hp2 : 2 ^ j ≤ 8589934592 := Nat.pow_le_pow_right (n := 2) (by decide) (show j ≤ 33 by omega)
    have hNP : N * 2 ^ j ≤ 31 * 8589934592 := Nat.mul_le_mul hN hp2
    have hlt := HK.out.2 j
    have hle := HK.out.1
    have hc0 := hbl.cell 0
    have hc1 := hbl.cell 1
    simp only [List.getElem?_cons_zero, List.getElem?_cons_succ] at hc0 hc1
    have hj0 : (0 : Int) ≤ (j : Int) := by omega
    have HBL := Lib.hid hbl
    have HB := Lib.hid hb
    obtain ⟨M, hM⟩ : ∃ M, M = N * 2 ^ j := ⟨_, rfl⟩
    have hw : IntKind.u64.wrap ((N : Int) * 2 ^ j) = (M : Int) := by
      have e : (N : Int) * 2 ^ j = (M : Int) := by rw [hM]; simp
      rw [e, IntKind.wrap_u64]; omega
    by_cases hjk : j < k
    · have hMA : (M : Int) < (A : Int) := by have := hlt hjk; omega
      clear hM hp2 hNP hlt hle hN hN1 hbl hb hA
      go_wp2
      go_quiet (fail)
      go_wp2
      go_roundw
      case rel => exact ⟨j + 1, by omega, by go_num, HBL.out.same rfl, below_drewN HB.out _⟩
      case measure => simp [intOf]; omega
    · obtain rfl : j = k := by omega
      have hMA : ¬ (M : Int) < (A : Int) := by omega
      clear hM hp2 hNP hlt hle hN hN1 hjk hbl hb hA
      go_wp2
      go_quiet (fail)
      go_wp2
      go_ret
      exact ⟨rfl, below_drewN HB.out _⟩
set_option maxHeartbeats 1000000 in
theorem riceBeh_any {A N v : Nat} (hA : A ≤ 1000000000000) (hN : N ≤ 31) (hv : v < 18446744073709551616) (w : World) :
    Calls Tryz.prog 290 #[cntV A N, .int .u64 (v : Int)] w fun e w' => e = .returned (cntV (behindA A N v) (behindN N)) ∧ Below w.heap.size w w' := by
  have HE := Lib.hid (fun (a b : Int) (h1 : a = ((behindA A N v : Nat) : Int)) (h2 : b = ((behindN N : Nat) : Int)) => show (Value.agg #[.int .u64 a, .int .u64 b]) = cntV (behindA A N v) (behindN N) by unfold cntV; rw [h1, h2])
  by_cases hN2 : N + 1 = 32
  · have hi : ¬ (N : Int) + 1 < 32 := by omega
    have e1 : ((A : Int) + min (v : Int) 4294967296) / 2 = ((behindA A N v : Nat) : Int) := by unfold behindA; rw [if_pos hN2]; omega
    have e2 : ((N : Int) + 1) / 2 = ((behindN N : Nat) : Int) := by unfold behindN; rw [if_pos hN2]; omega
    obtain ⟨a, ha⟩ : ∃ a, a = behindA A N v := ⟨_, rfl⟩
    obtain ⟨b, hbb⟩ : ∃ b, b = behindN N := ⟨_, rfl⟩
    rw [← ha] at e1 HE ⊢
    rw [← hbb] at e2 HE ⊢
    have E1 := Lib.hid e1
    have E2 := Lib.hid e2
    clear ha hbb e1 e2
    change Calls Tryz.prog 290 #[.agg #[.int .u64 (A : Int), .int .u64 (N : Int)], .int .u64 (v : Int)] w _
    go_enter Tryz.func290, Tryz.ntmps290
    go_wp2
    (try simp only [Exit.inBlock, Exit.then])
    exact bodyPost_ret (v := cntV a b) (by rw [← HE.out _ _ E1.out E2.out]; exact pcnt_end (p := w.heap.size + 1) Tryz.results290 rfl (by rw [← World.size_alloc]; exact heap_alloc_new _ _)) rfl ⟨rfl, ((Below.refl _ _).alloc (Nat.le_refl _) _).alloc (by simp) _⟩
  · have hi : (N : Int) + 1 < 32 := by omega
    have e1 : (A : Int) + min (v : Int) 4294967296 = ((behindA A N v : Nat) : Int) := by unfold behindA; rw [if_neg hN2]; omega
    have e2 : (N : Int) + 1 = ((behindN N : Nat) : Int) := by unfold behindN; rw [if_neg hN2]; omega
    obtain ⟨a, ha⟩ : ∃ a, a = behindA A N v := ⟨_, rfl⟩
    obtain ⟨b, hbb⟩ : ∃ b, b = behindN N := ⟨_, rfl⟩
    rw [← ha] at e1 HE ⊢
    rw [← hbb] at e2 HE ⊢
    have E1 := Lib.hid e1
    have E2 := Lib.hid e2
    clear ha hbb e1 e2
    change Calls Tryz.prog 290 #[.agg #[.int .u64 (A : Int), .int .u64 (N : Int)], .int .u64 (v : Int)] w _
    go_enter Tryz.func290, Tryz.ntmps290
    go_wp2
    (try simp only [Exit.inBlock, Exit.then])
    exact bodyPost_ret (v := cntV a b) (by rw [← HE.out _ _ E1.out E2.out]; exact pcnt_end (p := w.heap.size + 1) Tryz.results290 rfl (by rw [← World.size_alloc]; exact heap_alloc_new _ _)) rfl ⟨rfl, ((Below.refl _ _).alloc (Nat.le_refl _) _).alloc (by simp) _⟩
end Go.Proofs.YtflcmmeoppdhdaaGreat
