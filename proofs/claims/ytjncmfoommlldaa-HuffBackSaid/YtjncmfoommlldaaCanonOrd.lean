/- Plain mathematics of layer 21: codes in order. Written ahead of the code. · Plain mathematics of layer 21: letters in order, and what their codes come to. -/
import Derived.Lib.BitFns
namespace Go.Proofs.Ytjncmfoommlldaa

/-- The number behind the last code of so many bits, where c tells how many codes have so many bits. -/
def ends (c : Nat → Nat) : Nat → Nat
  | 0 => 0
  | n + 1 => 2 * ends c n + c (n + 1)
/-- Where the codes of n bits end, among numbers of 15 bits. -/
def bound (c : Nat → Nat) (n : Nat) : Nat := ends c n * 2 ^ (15 - n)
theorem bound_step (c : Nat → Nat) {n : Nat} (h : n < 15) : bound c (n + 1) = bound c n + c (n + 1) * 2 ^ (15 - (n + 1)) ∧ bound c n = 2 * ends c n * 2 ^ (15 - (n + 1)) := by
  unfold bound
  have e : 15 - n = (15 - (n + 1)) + 1 := by omega
  have e2 : ends c n * 2 ^ (15 - n) = 2 * ends c n * 2 ^ (15 - (n + 1)) := by rw [e, Nat.pow_succ, Nat.mul_comm (2 ^ _) 2, ← Nat.mul_assoc, Nat.mul_comm (ends c n) 2]
  refine ⟨?_, e2⟩
  rw [e2]
  show (2 * ends c n + c (n + 1)) * 2 ^ (15 - (n + 1)) = _
  rw [Nat.add_mul]
theorem bound_mono (c : Nat → Nat) {m n : Nat} (h : m ≤ n) (hn : n ≤ 15) : bound c m ≤ bound c n := by
  obtain ⟨d, rfl⟩ : ∃ d, n = m + d := ⟨n - m, by omega⟩
  clear h
  induction d with
  | zero => exact Nat.le_refl _
  | succ d ih =>
    have h1 := ih (by omega)
    have h2 := (bound_step c (n := m + d) (by omega)).1
    have h3 : m + (d + 1) = m + d + 1 := by omega
    rw [h3, h2]
    omega
/-- Do a number's first n bits (of 15) make one of the codes of n bits? -/
def hit (c : Nat → Nat) (v n : Nat) : Prop := 2 * ends c (n - 1) ≤ v / 2 ^ (15 - n) ∧ v / 2 ^ (15 - n) < ends c n
theorem hit_bound (c : Nat → Nat) (v : Nat) {n : Nat} (h1 : 1 ≤ n) (h2 : n ≤ 15) : hit c v n ↔ bound c (n - 1) ≤ v ∧ v < bound c n := by
  obtain ⟨m, rfl⟩ : ∃ m, n = m + 1 := ⟨n - 1, by omega⟩
  have hp : 0 < 2 ^ (15 - (m + 1)) := Nat.two_pow_pos _
  unfold hit
  rw [Nat.add_sub_cancel, (bound_step c (n := m) (by omega)).2, Nat.le_div_iff_mul_le hp, Nat.div_lt_iff_lt_mul hp]
  rfl
theorem hit_one (c : Nat → Nat) (v : Nat) {m n : Nat} (hm : 1 ≤ m) (hn : n ≤ 15) (hmn : m < n) (h : hit c v m) : ¬ hit c v n := fun h' => by
  have h1 := ((hit_bound c v hm (by omega)).1 h).2
  have h2 := ((hit_bound c v (by omega) hn).1 h').1
  have h3 := bound_mono c (m := m) (n := n - 1) (by omega) (by omega)
  omega
theorem hit_some (c : Nat → Nat) (v : Nat) (h : v < bound c 15) : ∃ n, 1 ≤ n ∧ n ≤ 15 ∧ hit c v n := by
  have key : ∀ k, k ≤ 15 → v < bound c k → ∃ n, 1 ≤ n ∧ n ≤ 15 ∧ hit c v n := by
    intro k
    induction k with
    | zero => intro _ h; simp [bound, ends] at h
    | succ k ih =>
      intro hk h
      by_cases h1 : v < bound c k
      · exact ih (by omega) h1
      · exact ⟨k + 1, by omega, hk, (hit_bound c v (by omega) hk).2 ⟨by rw [Nat.add_sub_cancel]; omega, h⟩⟩
  exact key 15 (Nat.le_refl _) h
theorem hit_none (c : Nat → Nat) (v : Nat) (h : ¬ v < bound c 15) {n : Nat} (h1 : 1 ≤ n) (h2 : n ≤ 15) : ¬ hit c v n := fun hh => by
  have h3 := ((hit_bound c v h1 h2).1 hh).2
  have := bound_mono c h2 (Nat.le_refl 15)
  omega

theorem ends_add (c d : Nat → Nat) : ∀ m, ends (fun n => c n + d n) m = ends c m + ends d m := by
  intro m
  induction m with
  | zero => rfl
  | succ m ih => simp only [ends]; rw [ih]; omega
theorem ends_only (x : Nat) : ∀ m, ends (fun n => if n = x then 1 else 0) m = if 1 ≤ x ∧ x ≤ m then 2 ^ (m - x) else 0 := by
  intro m
  induction m with
  | zero =>
    show 0 = _
    rw [if_neg (by omega)]
  | succ m ih =>
    simp only [ends]
    rw [ih]
    by_cases h1 : 1 ≤ x ∧ x ≤ m
    · have e : m + 1 - x = (m - x) + 1 := by omega
      rw [if_pos h1, if_neg (by omega), if_pos (by omega), e, Nat.pow_succ]; omega
    · rw [if_neg h1]
      by_cases h2 : m + 1 = x
      · rw [if_pos h2, if_pos (by omega), show m + 1 - x = 0 by omega]
      · rw [if_neg h2, if_neg (by omega)]
/-- How many lens are n. -/
def lenC (l : List Nat) (n : Nat) : Nat := l.count n
/-- Kraft's sum of lens. -/
def kraftL (l : List Nat) : Nat := (l.map fun x => if 1 ≤ x ∧ x ≤ 15 then 2 ^ (15 - x) else 0).sum
theorem kraft_ends (l : List Nat) : kraftL l = ends (lenC l) 15 := by
  induction l with
  | nil =>
    have h : ∀ m, ends (lenC []) m = 0 := by
      intro m
      induction m with
      | zero => rfl
      | succ m ih => simp only [ends]; rw [ih]; simp [lenC]
    rw [h]
    rfl
  | cons x l ih =>
    have e : lenC (x :: l) = fun n => lenC l n + if n = x then 1 else 0 := by
      funext n
      unfold lenC
      rw [List.count_cons]
      congr 1
      by_cases h : n = x
      · subst h; simp
      · rw [if_neg h, if_neg (by simpa using fun e => h e.symm)]
    rw [e, ends_add, ends_only, ← ih]
    simp only [kraftL, List.map_cons, List.sum_cons]
    omega
theorem bound_all (c : Nat → Nat) : bound c 15 = ends c 15 := by simp [bound]
/-- A letter's code. -/
def codeL (l : List Nat) (i : Nat) : Nat := 2 * ends (lenC l) (l.getD i 0 - 1) + (l.take i).count (l.getD i 0)
theorem count_take_lt (l : List Nat) {i : Nat} (h : i < l.length) : (l.take i).count (l.getD i 0) < l.count (l.getD i 0) := by
  have e : l.getD i 0 = l[i] := by simp [List.getD_eq_getElem?_getD, h]
  rw [e]
  have h1 : (l.take (i + 1)).count l[i] = (l.take i).count l[i] + 1 := by
    rw [List.take_add_one, List.getElem?_eq_getElem h, List.count_append]; simp
  have h2 := List.Sublist.count_le l[i] (List.take_sublist (i + 1) l)
  omega
/-- A code of n bits lies among those of n bits. -/
theorem codeL_in (l : List Nat) {i : Nat} (h : i < l.length) (h0 : 1 ≤ l.getD i 0) : 2 * ends (lenC l) (l.getD i 0 - 1) ≤ codeL l i ∧ codeL l i < ends (lenC l) (l.getD i 0) := by
  have h1 := count_take_lt l h
  unfold codeL
  refine ⟨by omega, ?_⟩
  obtain ⟨m, hm⟩ : ∃ m, l.getD i 0 = m + 1 := ⟨l.getD i 0 - 1, by omega⟩
  rw [hm] at h1 ⊢
  rw [Nat.add_sub_cancel]
  show _ < 2 * ends (lenC l) m + l.count (m + 1)
  omega
theorem count_nth (l : List Nat) (n : Nat) : ∀ k, k < l.count n → ∃ i, i < l.length ∧ l.getD i 0 = n ∧ (l.take i).count n = k := by
  induction l with
  | nil => intro k h; simp at h
  | cons x l ih =>
    intro k h
    by_cases e : x = n
    · subst e
      rw [List.count_cons_self] at h
      cases k with
      | zero => exact ⟨0, by simp, by simp, by simp⟩
      | succ k =>
        obtain ⟨i, h1, h2, h3⟩ := ih k (by omega)
        exact ⟨i + 1, by simpa using h1, by simpa using h2, by simp [h3]⟩
    · rw [List.count_cons_of_ne e] at h
      obtain ⟨i, h1, h2, h3⟩ := ih k h
      exact ⟨i + 1, by simpa using h1, by simpa using h2, by rw [List.take_succ_cons, List.count_cons_of_ne e]; exact h3⟩
/-- Each number among those of n bits is one letter's code. -/
theorem codeL_some (l : List Nat) {x n : Nat} (hn : 1 ≤ n) (h1 : 2 * ends (lenC l) (n - 1) ≤ x) (h2 : x < ends (lenC l) n) : ∃ i, i < l.length ∧ l.getD i 0 = n ∧ codeL l i = x := by
  obtain ⟨m, rfl⟩ : ∃ m, n = m + 1 := ⟨n - 1, by omega⟩
  rw [Nat.add_sub_cancel] at h1
  have h3 : x < 2 * ends (lenC l) m + l.count (m + 1) := h2
  obtain ⟨i, g1, g2, g3⟩ := count_nth l (m + 1) (x - 2 * ends (lenC l) m) (by omega)
  refine ⟨i, g1, g2, ?_⟩
  unfold codeL
  rw [g2, g3, Nat.add_sub_cancel]
  omega
theorem codeL_one (l : List Nat) {i j : Nat} (hi : i < l.length) (hj : j < l.length) (hn : l.getD i 0 = l.getD j 0) (hc : codeL l i = codeL l j) : i = j := by
  have key : ∀ {i j : Nat}, i < j → j < l.length → l.getD i 0 = l.getD j 0 → (l.take i).count (l.getD i 0) < (l.take j).count (l.getD i 0) := fun {i j} hij hj hn => by
    have e : l.getD i 0 = l[i]'(by omega) := by simp [List.getD_eq_getElem?_getD, show i < l.length by omega]
    rw [e]
    have h1 : (l.take (i + 1)).count l[i] = (l.take i).count l[i] + 1 := by
      rw [List.take_add_one, List.getElem?_eq_getElem (show i < l.length by omega), List.count_append]; simp
    have h2 : (l.take (i + 1)).count l[i] ≤ (l.take j).count l[i] := by
      have : l.take (i + 1) = (l.take j).take (i + 1) := by rw [List.take_take, Nat.min_eq_left (by omega)]
      rw [this]
      exact List.Sublist.count_le _ (List.take_sublist _ _)
    omega
  unfold codeL at hc
  rw [← hn] at hc
  rcases Nat.lt_trichotomy i j with e | e | e
  · have := key e hj hn; omega
  · exact e
  · have := key e hi hn.symm
    rw [← hn] at this
    omega
end Go.Proofs.Ytjncmfoommlldaa
namespace Go.Proofs.Ytjncmfoommlldaa

/-- Is a letter ahead of another: its len is less, or the same and its number is less. -/
def lexB (l : List Nat) (i j : Nat) : Bool := decide (l.getD i 0 < l.getD j 0 ∨ (l.getD i 0 = l.getD j 0 ∧ i < j))
theorem lexB_irrefl (l : List Nat) (i : Nat) : lexB l i i = false := by unfold lexB; exact decide_eq_false (by omega)
theorem lexB_asymm {l : List Nat} {i j : Nat} (h : lexB l i j = true) : lexB l j i = false := by unfold lexB at *; simp only [decide_eq_true_eq] at h; exact decide_eq_false (by omega)
/-- The letters that are there, by their numbers. -/
def hereL (l : List Nat) : List Nat := (List.range l.length).filter fun i => decide (0 < l.getD i 0)
/-- In order. -/
structure OrdL (l S : List Nat) : Prop where
  perm : S.Perm (hereL l)
  up : S.Pairwise fun i j => lexB l i j = true
theorem hereL_mem {l : List Nat} {i : Nat} : i ∈ hereL l ↔ i < l.length ∧ 0 < l.getD i 0 := by unfold hereL; simp
theorem hereL_nodup (l : List Nat) : (hereL l).Nodup := List.Pairwise.filter _ List.nodup_range
theorem OrdL.mem {l S : List Nat} (h : OrdL l S) {i : Nat} : i ∈ S ↔ i < l.length ∧ 0 < l.getD i 0 := by rw [h.perm.mem_iff, hereL_mem]
theorem take_lex {l S : List Nat} (h : S.Pairwise fun i j => lexB l i j = true) {t : Nat} (ht : t < S.length) : S.filter (fun x => lexB l x S[t]) = S.take t := by
  have e : S = S.take t ++ S[t] :: S.drop (t + 1) := by rw [← List.drop_eq_getElem_cons ht, List.take_append_drop]
  obtain ⟨p, hp⟩ : ∃ p, p = S[t] := ⟨_, rfl⟩
  rw [← hp] at e ⊢
  obtain ⟨u, hu⟩ : ∃ u, u = S.take t := ⟨_, rfl⟩
  obtain ⟨v, hv⟩ : ∃ v, v = S.drop (t + 1) := ⟨_, rfl⟩
  rw [← hu, ← hv] at e
  rw [← hu, e] 
  rw [e, List.pairwise_append] at h
  obtain ⟨-, h2, h3⟩ := h
  rw [List.pairwise_cons] at h2
  rw [List.filter_append, List.filter_cons_of_neg (by rw [lexB_irrefl]; decide)]
  rw [List.filter_eq_self.2 fun x hx => h3 x hx p List.mem_cons_self]
  rw [List.filter_eq_nil_iff.2 fun x hx => by rw [lexB_asymm (h2.1 x hx)]; decide]
  rw [List.append_nil]
/-- What a code of so many bits takes of all. -/
def wK (l : List Nat) (i : Nat) : Nat := 2 ^ (15 - l.getD i 0)
def sumK (l S : List Nat) : Nat := (S.map (wK l)).sum
theorem sumK_perm {l S S' : List Nat} (h : S.Perm S') : sumK l S = sumK l S' := (h.map _).sum_nat
/-- The sum of those of fewer than m bits. -/
def lowK (m : Nat) (l : List Nat) : Nat := (l.map fun x => if 1 ≤ x ∧ x + 1 ≤ m then 2 ^ (15 - x) else 0).sum
theorem sum_ends (l : List Nat) (M : Nat) : ends (lenC l) M = (l.map fun x => if 1 ≤ x ∧ x ≤ M then 2 ^ (M - x) else 0).sum := by
  induction l with
  | nil =>
    have h : ∀ m, ends (lenC []) m = 0 := by
      intro m
      induction m with
      | zero => rfl
      | succ m ih => simp only [ends]; rw [ih]; simp [lenC]
    rw [h]
    rfl
  | cons x l ih =>
    have e : lenC (x :: l) = fun n => lenC l n + if n = x then 1 else 0 := by
      funext n
      unfold lenC
      rw [List.count_cons]
      congr 1
      by_cases h : n = x
      · subst h; simp
      · rw [if_neg h, if_neg (by simpa using fun e => h e.symm)]
    rw [e, ends_add, ends_only, ih]
    simp only [List.map_cons, List.sum_cons]
    omega
theorem lowK_ends (l : List Nat) {m : Nat} (h1 : 1 ≤ m) (h2 : m ≤ 15) : lowK m l = 2 * ends (lenC l) (m - 1) * 2 ^ (15 - m) := by
  rw [sum_ends]
  unfold lowK
  induction l with
  | nil => simp
  | cons x l ih =>
    simp only [List.map_cons, List.sum_cons]
    rw [ih, Nat.mul_add, Nat.add_mul]
    congr 1
    by_cases h : 1 ≤ x ∧ x + 1 ≤ m
    · rw [if_pos h, if_pos (by omega)]
      rw [show 15 - x = (m - 1 - x) + 1 + (15 - m) by omega, Nat.pow_add, Nat.pow_succ, Nat.mul_comm (2 ^ (m - 1 - x)) 2]
    · rw [if_neg h, if_neg (by omega)]; simp
theorem ahead_low (l : List Nat) {i : Nat} (hm1 : 1 ≤ l.getD i 0) : ∀ k, k ≤ l.length →
    sumK l (((List.range k).filter fun x => decide (0 < l.getD x 0)).filter fun x => lexB l x i) = lowK (l.getD i 0) (l.take k) + (l.take (min i k)).count (l.getD i 0) * 2 ^ (15 - l.getD i 0) := by
  intro k
  induction k with
  | zero => intro _; simp [sumK, lowK]
  | succ k ih =>
    intro hk
    have hkl : k < l.length := by omega
    have e : l.getD k 0 = l[k] := by simp [List.getD_eq_getElem?_getD, hkl]
    rw [List.range_succ, List.filter_append, List.filter_append]
    unfold sumK at *
    rw [List.map_append, List.sum_append, ih (by omega)]
    have t1 : l.take (k + 1) = l.take k ++ [l.getD k 0] := by rw [List.take_add_one, List.getElem?_eq_getElem hkl, e]; rfl
    have t2 : lowK (l.getD i 0) (l.take (k + 1)) = lowK (l.getD i 0) (l.take k) + if 1 ≤ l.getD k 0 ∧ l.getD k 0 + 1 ≤ l.getD i 0 then 2 ^ (15 - l.getD k 0) else 0 := by
      rw [t1]; unfold lowK; simp
    rw [t2]
    have t3 : (l.take (min i (k + 1))).count (l.getD i 0) = (l.take (min i k)).count (l.getD i 0) + if k < i ∧ l.getD k 0 = l.getD i 0 then 1 else 0 := by
      by_cases h : k < i
      · rw [show min i (k + 1) = k + 1 by omega, show min i k = k by omega, t1, List.count_append]
        congr 1
        by_cases h2 : l.getD k 0 = l.getD i 0
        · rw [h2, if_pos ⟨h, rfl⟩]; simp
        · rw [if_neg (fun x => h2 x.2), List.count_singleton, if_neg (by simpa using h2)]
      · rw [show min i (k + 1) = i by omega, show min i k = i by omega, if_neg (fun x => h x.1)]; rfl
    rw [t3, Nat.add_mul]
    have t5 : lexB l k i = true ↔ (l.getD k 0 < l.getD i 0 ∨ (l.getD k 0 = l.getD i 0 ∧ k < i)) := by unfold lexB; simp
    have t4 : ((([k].filter fun x => decide (0 < l.getD x 0)).filter fun x => lexB l x i).map (wK l)).sum = if 0 < l.getD k 0 ∧ (l.getD k 0 < l.getD i 0 ∨ (l.getD k 0 = l.getD i 0 ∧ k < i)) then 2 ^ (15 - l.getD k 0) else 0 := by
      by_cases h1 : 0 < l.getD k 0
      · rw [List.filter_cons_of_pos (by simpa using h1), List.filter_nil]
        by_cases h2 : lexB l k i = true
        · rw [if_pos ⟨h1, t5.1 h2⟩]; simp only [List.filter_cons, List.filter_nil, h2, if_true, List.map_cons, List.map_nil, List.sum_cons, List.sum_nil, wK]; rfl
        · rw [if_neg (fun x => h2 (t5.2 x.2))]; simp only [List.filter_cons, List.filter_nil, h2]; rfl
      · rw [List.filter_cons_of_neg (by simpa using h1), if_neg (fun x => h1 x.1)]; simp
    rw [t4]
    obtain ⟨x, hx⟩ : ∃ x, x = l.getD k 0 := ⟨_, rfl⟩
    obtain ⟨m, hm⟩ : ∃ m, m = l.getD i 0 := ⟨_, rfl⟩
    rw [← hm] at hm1
    rw [← hx, ← hm]
    by_cases h0 : 0 < x
    · by_cases h1 : x < m
      · rw [if_pos ⟨h0, .inl h1⟩, if_pos (by omega), if_neg (by omega)]; omega
      · by_cases h2 : x = m ∧ k < i
        · rw [if_pos ⟨h0, .inr h2⟩, if_neg (by omega), if_pos ⟨h2.2, h2.1⟩, h2.1]; omega
        · rw [if_neg (by omega), if_neg (by omega), if_neg (by omega)]; omega
    · rw [if_neg (by omega), if_neg (by omega), if_neg (by omega)]; omega
/-- What the codes ahead of a letter's take is its own code, of so many bits. -/
theorem ahead_code {l S : List Nat} (h : OrdL l S) {t : Nat} (ht : t < S.length) (h15 : l.getD S[t] 0 ≤ 15) : sumK l (S.take t) = codeL l S[t] * 2 ^ (15 - l.getD S[t] 0) := by
  have hm := h.mem.1 (List.getElem_mem ht)
  rw [← take_lex h.up ht, sumK_perm (h.perm.filter _)]
  unfold hereL
  rw [ahead_low l hm.2 l.length (Nat.le_refl _), List.take_length, lowK_ends l hm.2 h15, show min S[t] l.length = S[t] by omega]
  unfold codeL
  rw [Nat.add_mul]
theorem sumK_take {l S : List Nat} {t : Nat} (ht : t < S.length) : sumK l (S.take (t + 1)) = sumK l (S.take t) + 2 ^ (15 - l.getD S[t] 0) := by
  unfold sumK
  rw [List.take_add_one, List.getElem?_eq_getElem ht, List.map_append, List.sum_append]
  simp [wK]
/-- The code that a longer one begins with: next times so much. -/
theorem next_code {l S : List Nat} (h : OrdL l S) {t b s : Nat} (ht : t < S.length) (h15 : l.getD S[t] 0 ≤ 15) (hs : s ≤ l.getD S[t] 0) (hb : b * 2 ^ (15 - s) = sumK l (S.take t)) : b * 2 ^ (l.getD S[t] 0 - s) = codeL l S[t] := by
  have h1 := ahead_code h ht h15
  rw [← hb] at h1
  have e : 15 - s = (l.getD S[t] 0 - s) + (15 - l.getD S[t] 0) := by omega
  rw [e, Nat.pow_add, ← Nat.mul_assoc] at h1
  exact Nat.eq_of_mul_eq_mul_right (Nat.two_pow_pos _) h1
theorem next_sum {l S : List Nat} (h : OrdL l S) {t : Nat} (ht : t < S.length) (h15 : l.getD S[t] 0 ≤ 15) : (codeL l S[t] + 1) * 2 ^ (15 - l.getD S[t] 0) = sumK l (S.take (t + 1)) := by
  rw [sumK_take ht, ahead_code h ht h15, Nat.add_mul, Nat.one_mul]
theorem ord_up {l S : List Nat} (h : OrdL l S) {t : Nat} (ht : t + 1 < S.length) : l.getD S[t] 0 ≤ l.getD S[t + 1] 0 := by
  have := List.pairwise_iff_getElem.1 h.up t (t + 1) (by omega) ht (by omega)
  unfold lexB at this
  simp only [decide_eq_true_eq] at this
  omega
theorem codeL_most {l : List Nat} {i : Nat} (hi : i < l.length) (h1 : 1 ≤ l.getD i 0) (h2 : l.getD i 0 ≤ 15) : codeL l i < kraftL l := by
  have h := (codeL_in l hi h1).2
  have h3 := bound_mono (lenC l) h2 (Nat.le_refl 15)
  rw [bound_all, ← kraft_ends] at h3
  unfold bound at h3
  have : ends (lenC l) (l.getD i 0) * 1 ≤ ends (lenC l) (l.getD i 0) * 2 ^ (15 - l.getD i 0) := Nat.mul_le_mul_left _ (Nat.two_pow_pos _)
  omega
end Go.Proofs.Ytjncmfoommlldaa
