/- Plain mathematics of layer 19: words by a parameter that follows them, as bits, and back. Written ahead of the code. -/
import Derived.Test.YtfdgnhfppginiaaBitSt
namespace Go.Proofs.Ytfdgnhfppginiaa

theorem getV_bits (v n : Nat) (R : List Bool) : getV (bitsOf v n ++ R, 0) n = v % 2 ^ n ∧ getS (bitsOf v n ++ R, 0) n = (R, 0) := by
  have hl : (bitsOf v n).length = n := bitsOf_length v n
  unfold getV getS
  have h1 : n ≤ (bitsOf v n ++ R).length := by simp [hl]
  have e1 : (bitsOf v n ++ R).take n = bitsOf v n := by rw [List.take_append_of_le_length (by omega), List.take_of_length_le (by omega)]
  have e2 : (bitsOf v n ++ R).drop n = R := by rw [List.drop_append_of_le_length (by omega), List.drop_of_length_le (by omega)]; rfl
  simp only
  rw [if_pos ⟨trivial, h1⟩, if_pos trivial, if_pos h1, e1, e2, valOf_bitsOf]
  exact ⟨rfl, rfl⟩

/-- The parameter of two counts: the least one for which N times 2 to the power of it is not below A. -/
def IsK (A N k : Nat) : Prop := A ≤ N * 2 ^ k ∧ ∀ j, j < k → N * 2 ^ j < A
theorem IsK.one {A N k k' : Nat} (h : IsK A N k) (h' : IsK A N k') : k = k' := by
  rcases Nat.lt_trichotomy k k' with e | e | e
  · have := h'.2 k e; have := h.1; omega
  · exact e
  · have := h.2 k' e; have := h'.1; omega
theorem isK_some {A N m : Nat} (h : A ≤ N * 2 ^ m) : ∃ k, k ≤ m ∧ IsK A N k := by
  induction m with
  | zero => exact ⟨0, Nat.le_refl _, h, fun j hj => by omega⟩
  | succ m ih =>
    by_cases h1 : A ≤ N * 2 ^ m
    · obtain ⟨k, hk, hi⟩ := ih h1
      exact ⟨k, by omega, hi⟩
    · refine ⟨m + 1, Nat.le_refl _, h, fun j hj => ?_⟩
      have h2 : 2 ^ j ≤ 2 ^ m := Nat.pow_le_pow_right (by decide) (by omega)
      have h3 := Nat.mul_le_mul_left N h2
      omega
/-- The counts behind a word. -/
def behindA (A N v : Nat) : Nat := if N + 1 = 32 then (A + min v 4294967296) / 2 else A + min v 4294967296
def behindN (N : Nat) : Nat := if N + 1 = 32 then 16 else N + 1
/-- Counts as they may be, of words of so many bits. -/
def CountsOk (D A N : Nat) : Prop := 1 ≤ N ∧ N ≤ 31 ∧ A ≤ N * 2 ^ D ∧ A ≤ N * 4294967296 + 16
theorem counts_start {D : Nat} (h : 8 ≤ D) : CountsOk D 16 1 := ⟨Nat.le_refl _, by decide, by
  have : 2 ^ 8 ≤ 2 ^ D := Nat.pow_le_pow_right (by decide) h
  omega, by decide⟩
theorem counts_behind {D A N v : Nat} (h : CountsOk D A N) (hv : v < 2 ^ D) : CountsOk D (behindA A N v) (behindN N) := by
  obtain ⟨h1, h2, h3, h4⟩ := h
  have hm : min v 4294967296 ≤ v := Nat.min_le_left _ _
  have hm2 : min v 4294967296 ≤ 4294967296 := Nat.min_le_right _ _
  obtain ⟨u, hu⟩ : ∃ u, u = min v 4294967296 := ⟨_, rfl⟩
  obtain ⟨P, hP⟩ : ∃ P, P = 2 ^ D := ⟨_, rfl⟩
  unfold CountsOk behindA behindN
  rw [← hu] at hm hm2 ⊢
  rw [← hP] at h3 hv ⊢
  by_cases hN : N + 1 = 32
  · rw [if_pos hN, if_pos hN]
    obtain rfl : N = 31 := by omega
    exact ⟨by decide, by decide, by omega, by omega⟩
  · rw [if_neg hN, if_neg hN]
    have e : (N + 1) * P = N * P + P := Nat.succ_mul N P
    exact ⟨by omega, by omega, by omega, by omega⟩
/-- A word's bits. -/
def riceW (D k v : Nat) : List Bool := if v / 2 ^ k < 24 then onesOf (v / 2 ^ k) 24 ++ bitsOf v k else onesOf 24 24 ++ bitsOf v D
theorem onesOf_len (n m : Nat) : (onesOf n m).length ≤ n + 1 ∧ (n = m → (onesOf n m).length = n) := by
  unfold onesOf
  by_cases h1 : n < m
  · rw [if_pos h1]; simp; omega
  · rw [if_neg h1]; simp
/-- P19.4. -/
theorem riceW_len {D k v : Nat} (hk : k ≤ D) : (riceW D k v).length ≤ 24 + D := by
  unfold riceW
  split
  · rename_i h
    have := (onesOf_len (v / 2 ^ k) 24).1
    rw [List.length_append, bitsOf_length]; omega
  · have := (onesOf_len 24 24).2 rfl
    rw [List.length_append, bitsOf_length]; omega
/-- Words' bits, from two counts on. -/
inductive RiceB (D : Nat) : Nat → Nat → List Nat → List Bool → Prop
  | none (A N : Nat) : RiceB D A N [] []
  | word (A N k v : Nat) (l : List Nat) (L : List Bool) (hk : IsK A N k) (hr : RiceB D (behindA A N v) (behindN N) l L) : RiceB D A N (v :: l) (riceW D k v ++ L)
theorem RiceB.one {D A N : Nat} {l : List Nat} {L L' : List Bool} (h : RiceB D A N l L) (h' : RiceB D A N l L') : L = L' := by
  induction h generalizing L' with
  | none => cases h'; rfl
  | word A N k v l L hk hr ih =>
    cases h' with
    | word _ _ k2 _ _ L2 hk2 hr2 =>
      obtain rfl := hk.one hk2
      rw [ih hr2]
theorem riceB_some {D : Nat} : ∀ (l : List Nat) (A N : Nat), CountsOk D A N → (∀ v ∈ l, v < 2 ^ D) → ∃ L, RiceB D A N l L ∧ L.length ≤ (24 + D) * l.length := by
  intro l
  induction l with
  | nil => intro A N _ _; exact ⟨[], .none A N, by simp⟩
  | cons v l ih =>
    intro A N h hl
    obtain ⟨k, hkD, hk⟩ := isK_some h.2.2.1
    obtain ⟨L, hr, hlen⟩ := ih _ _ (counts_behind h (hl v List.mem_cons_self)) fun x hx => hl x (List.mem_cons_of_mem _ hx)
    refine ⟨_, .word A N k v l L hk hr, ?_⟩
    have := riceW_len (v := v) hkD
    rw [List.length_append, List.length_cons, Nat.mul_succ]
    omega
/-- A word that bits tell, and what is left; none, if they tell none. -/
def riceV (D k : Nat) (s : List Bool × Nat) : Option (Nat × (List Bool × Nat)) :=
  if onesV s 24 = 24 then
    if (getS (onesS s 24) D).2 = 0 then some (getV (onesS s 24) D, getS (onesS s 24) D) else none
  else if 0 < onesV s 24 ∧ (2 ^ D - 1) / onesV s 24 < 2 ^ k then none
  else if 2 ^ D - 1 < onesV s 24 * 2 ^ k + getV (onesS s 24) k then none
  else if (getS (onesS s 24) k).2 = 0 then some (onesV s 24 * 2 ^ k + getV (onesS s 24) k, getS (onesS s 24) k) else none
theorem riceV_word {D k v : Nat} (hv : v < 2 ^ D) (R : List Bool) : riceV D k (riceW D k v ++ R, 0) = some (v, (R, 0)) := by
  unfold riceV riceW
  by_cases h : v / 2 ^ k < 24
  · rw [if_pos h, List.append_assoc]
    obtain ⟨o1, o2⟩ := onesV_ones (n := v / 2 ^ k) (m := 24) (bitsOf v k ++ R) (by omega)
    obtain ⟨g1, g2⟩ := getV_bits v k R
    rw [o1, o2, g1, g2]
    have hd := Nat.div_add_mod v (2 ^ k)
    have hp : 0 < 2 ^ k := Nat.two_pow_pos k
    have e : v / 2 ^ k * 2 ^ k + v % 2 ^ k = v := by rw [Nat.mul_comm]; exact hd
    rw [if_neg (by omega), e, if_neg (fun hh => ?_), if_neg (by omega), if_pos rfl]
    obtain ⟨q, hq⟩ : ∃ q, q = v / 2 ^ k := ⟨_, rfl⟩
    rw [← hq] at hh e
    have h2 : 2 ^ k ≤ (2 ^ D - 1) / q := (Nat.le_div_iff_mul_le hh.1).2 (by rw [Nat.mul_comm]; omega)
    omega
  · rw [if_neg h, List.append_assoc]
    obtain ⟨o1, o2⟩ := onesV_ones (n := 24) (m := 24) (bitsOf v D ++ R) (Nat.le_refl _)
    obtain ⟨g1, g2⟩ := getV_bits v D R
    rw [o1, o2, g1, g2, if_pos rfl, if_pos rfl, Nat.mod_eq_of_lt hv]
/-- So many words that bits tell, one behind the other; none, if they tell none. -/
inductive RiceR (D : Nat) : Nat → Nat → Nat → (List Bool × Nat) → Option (List Nat × (List Bool × Nat)) → Prop
  | done (A N : Nat) (s : List Bool × Nat) : RiceR D 0 A N s (some ([], s))
  | bad (n A N k : Nat) (s : List Bool × Nat) (hk : IsK A N k) (hv : riceV D k s = none) : RiceR D (n + 1) A N s none
  | word (n A N k v : Nat) (s s' : List Bool × Nat) (o : Option (List Nat × (List Bool × Nat))) (hk : IsK A N k) (hv : riceV D k s = some (v, s')) (hr : RiceR D n (behindA A N v) (behindN N) s' o) : RiceR D (n + 1) A N s (o.map fun p => (v :: p.1, p.2))
theorem RiceR.one {D n A N : Nat} {s : List Bool × Nat} {o o' : Option (List Nat × (List Bool × Nat))} (h : RiceR D n A N s o) (h' : RiceR D n A N s o') : o = o' := by
  induction h generalizing o' with
  | done => cases h'; rfl
  | bad n A N k s hk hv =>
    cases h' with
    | bad => rfl
    | word _ _ _ k2 v2 _ s2 o2 hk2 hv2 hr2 =>
      obtain rfl := hk.one hk2
      rw [hv] at hv2
      cases hv2
  | word n A N k v s s' o hk hv hr ih =>
    cases h' with
    | bad _ _ _ k2 _ hk2 hv2 =>
      obtain rfl := hk.one hk2
      rw [hv] at hv2
      cases hv2
    | word _ _ _ k2 v2 _ s2 o2 hk2 hv2 hr2 =>
      obtain rfl := hk.one hk2
      rw [hv, Option.some.injEq, Prod.mk.injEq] at hv2
      obtain ⟨rfl, rfl⟩ := hv2
      rw [ih hr2]
/-- P19.3: what was laid is told. -/
theorem RiceB.told {D A N : Nat} {l : List Nat} {L : List Bool} (h : RiceB D A N l L) : (∀ v ∈ l, v < 2 ^ D) → ∀ R, RiceR D l.length A N (L ++ R, 0) (some (l, (R, 0))) := by
  induction h with
  | none A N => intro _ R; exact .done A N _
  | word A N k v l L hk hr ih =>
    intro hl R
    have h1 := ih (fun x hx => hl x (List.mem_cons_of_mem _ hx)) R
    have h2 := riceV_word (k := k) (hl v List.mem_cons_self) (L ++ R)
    rw [List.append_assoc]
    exact RiceR.word _ A N k v _ _ _ hk h2 h1
/-- What Ones leaves. -/
theorem onesS_less {L : List Bool} {n : Nat} {R : List Bool} (h : onesF 24 L = some (n, R)) : R.length + 1 ≤ L.length ∧ n ≤ 24 := by
  rcases onesF_ways 24 L with ⟨R', h1, h2⟩ | ⟨n', R', h0, h1, h2⟩ | ⟨n', h0, h1, h2⟩
  · rw [h2] at h
    obtain ⟨rfl, rfl⟩ := Prod.mk.injEq .. ▸ Option.some.inj h
    rw [h1]; simp
  · rw [h2] at h
    obtain ⟨rfl, rfl⟩ := Prod.mk.injEq .. ▸ Option.some.inj h
    rw [h1]; simp; omega
  · rw [h2] at h; cases h
theorem onesV_le (s : List Bool × Nat) : onesV s 24 ≤ 24 := by
  unfold onesV
  split
  · cases h : onesF 24 s.1 with
    | none => simp
    | some p => obtain ⟨n, R⟩ := p; simpa using (onesS_less h).2
  · omega
theorem getS_err {s : List Bool × Nat} {n : Nat} (h : (getS s n).2 = 0) : s.2 = 0 ∧ (getS s n).1.length ≤ s.1.length := by
  unfold getS at h ⊢
  by_cases h0 : s.2 = 0
  · rw [if_pos h0] at h ⊢
    split at h
    · rename_i h1; rw [if_pos h1]; exact ⟨h0, by simp⟩
    · simp at h
  · rw [if_neg h0] at h; exact absurd h h0
theorem onesS_err {s : List Bool × Nat} (h : (onesS s 24).2 = 0) : s.2 = 0 ∧ (onesS s 24).1.length + 1 ≤ s.1.length := by
  unfold onesS at h ⊢
  by_cases h0 : s.2 = 0
  · rw [if_pos h0] at h ⊢
    cases h1 : onesF 24 s.1 with
    | none => rw [h1] at h; simp at h
    | some p => obtain ⟨n, R⟩ := p; exact ⟨h0, by simpa using (onesS_less h1).1⟩
  · rw [if_neg h0] at h; exact absurd h h0
/-- A word that is told: what it is, and that bits were taken. -/
theorem riceV_some {D k v : Nat} {s s' : List Bool × Nat} (h : riceV D k s = some (v, s')) : v < 2 ^ D ∧ s.2 = 0 ∧ s'.2 = 0 ∧ s'.1.length + 1 ≤ s.1.length := by
  have hp : 0 < 2 ^ D := Nat.two_pow_pos D
  unfold riceV at h
  split at h
  · split at h
    · rename_i h1 h2
      obtain ⟨rfl, rfl⟩ := Prod.mk.injEq .. ▸ Option.some.inj h
      obtain ⟨g1, g2⟩ := getS_err h2
      obtain ⟨o1, o2⟩ := onesS_err g1
      exact ⟨getV_lt _ _, o1, h2, by omega⟩
    · cases h
  · split at h
    · cases h
    · split at h
      · cases h
      · split at h
        · rename_i h1 h2 h3 h4
          obtain ⟨rfl, rfl⟩ := Prod.mk.injEq .. ▸ Option.some.inj h
          obtain ⟨g1, g2⟩ := getS_err h4
          obtain ⟨o1, o2⟩ := onesS_err g1
          exact ⟨by omega, o1, h4, by omega⟩
        · cases h
theorem riceR_some {D : Nat} : ∀ (n A N : Nat) (s : List Bool × Nat), CountsOk D A N → ∃ o, RiceR D n A N s o
  | 0, A, N, s, _ => ⟨_, .done A N s⟩
  | n + 1, A, N, s, h => by
    obtain ⟨k, hkD, hk⟩ := isK_some h.2.2.1
    cases hv : riceV D k s with
    | none => exact ⟨none, .bad n A N k s hk hv⟩
    | some p =>
      obtain ⟨v, s'⟩ := p
      obtain ⟨o, ho⟩ := riceR_some n _ _ s' (counts_behind h (riceV_some hv).1)
      exact ⟨_, .word n A N k v s s' o hk hv ho⟩
theorem RiceR.len {D n A N : Nat} {s : List Bool × Nat} {o : Option (List Nat × (List Bool × Nat))} (h : RiceR D n A N s o) : ∀ X s', o = some (X, s') → X.length = n ∧ X.length + s'.1.length ≤ s.1.length ∧ (∀ x ∈ X, x < 2 ^ D) ∧ (s.2 = 0 → s'.2 = 0) := by
  induction h with
  | done A N s => intro X s' e; obtain ⟨rfl, rfl⟩ := Prod.mk.injEq .. ▸ Option.some.inj e; exact ⟨rfl, by simp, by simp, id⟩
  | bad => intro X s' e; cases e
  | word n A N k v s s2 o hk hv hr ih =>
    intro X s' e
    cases o with
    | none => cases e
    | some p =>
      obtain ⟨Y, t⟩ := p
      simp only [Option.map_some, Option.some.injEq, Prod.mk.injEq] at e
      obtain ⟨rfl, rfl⟩ := e
      obtain ⟨i1, i2, i3, i4⟩ := ih Y t rfl
      obtain ⟨v1, v2, v3, v4⟩ := riceV_some hv
      exact ⟨by simp [i1], by simp; omega, fun x hx => by
        rcases List.mem_cons.1 hx with rfl | hx
        · exact v1
        · exact i3 x hx, fun _ => i4 v3⟩
end Go.Proofs.Ytfdgnhfppginiaa
