/- Plain mathematics of layer 14: shares of a power of two. Written ahead of the code. -/
import Derived.Test.YtjncmfoommlldaaFenMath
namespace Go.Proofs.Ytjncmfoommlldaa

/-- Place k has the greatest, the first of such. -/
def IsFirst (l : List Int) (k : Nat) : Prop := k < l.length ∧ (∀ j, j < l.length → l.getD j 0 ≤ l.getD k 0) ∧ ∀ j, j < k → l.getD j 0 < l.getD k 0
theorem IsFirst.one {l : List Int} {a b : Nat} (h : IsFirst l a) (h' : IsFirst l b) : a = b := by
  rcases Nat.lt_trichotomy a b with e | e | e
  · have := h'.2.2 a e; have := h.2.1 b h'.1; omega
  · exact e
  · have := h.2.2 b e; have := h'.2.1 a h.1; omega
theorem getD_take (l : List Int) {i j : Nat} (h : j < i) : (l.take i).getD j 0 = l.getD j 0 := by
  simp [List.getD_eq_getElem?_getD, List.getElem?_take_of_lt h]
theorem first_start (l : List Int) (h : 0 < l.length) : IsFirst (l.take 1) 0 := by
  refine ⟨by simp; omega, fun j hj => ?_, fun j hj => by omega⟩
  have : j = 0 := by simp at hj; omega
  subst this; exact Int.le_refl _
/-- A place more is looked at. -/
theorem first_next (l : List Int) {i a : Nat} (h : IsFirst (l.take i) a) (hi : i < l.length) : IsFirst (l.take (i + 1)) (if l.getD a 0 < l.getD i 0 then i else a) := by
  obtain ⟨h1, h2, h3⟩ := h
  have hlen : (l.take i).length = i := by simp; omega
  have hlen2 : (l.take (i + 1)).length = i + 1 := by simp; omega
  rw [hlen] at h1 h2
  have g2 : ∀ j, j < i → l.getD j 0 ≤ l.getD a 0 := fun j hj => by have := h2 j hj; rwa [getD_take l hj, getD_take l h1] at this
  have g3 : ∀ j, j < a → l.getD j 0 < l.getD a 0 := fun j hj => by have := h3 j hj; rwa [getD_take l (by omega), getD_take l h1] at this
  split
  · rename_i hlt
    refine ⟨by rw [hlen2]; omega, fun j hj => ?_, fun j hj => ?_⟩
    · rw [hlen2] at hj
      rw [getD_take l hj, getD_take l (by omega)]
      rcases Nat.lt_or_ge j i with e | e
      · have := g2 j e; omega
      · obtain rfl : j = i := by omega
        exact Int.le_refl _
    · rw [getD_take l (by omega), getD_take l (by omega)]
      have := g2 j hj; omega
  · rename_i hlt
    refine ⟨by rw [hlen2]; omega, fun j hj => ?_, fun j hj => ?_⟩
    · rw [hlen2] at hj
      rw [getD_take l hj, getD_take l (by omega)]
      rcases Nat.lt_or_ge j i with e | e
      · exact g2 j e
      · obtain rfl : j = i := by omega
        omega
    · rw [getD_take l (by omega), getD_take l (by omega)]
      exact g3 j hj

/-- A share, ahead of what is made good. -/
def nShare (t s c : Int) : Int := if 0 < c ∧ c * t / s = 0 then 1 else c * t / s
/-- So often the greatest is one less. -/
inductive Trim : Nat → List Int → List Int → Prop
  | done (l : List Int) : Trim 0 l l
  | more (n k : Nat) (l r : List Int) (h : IsFirst l k) (hr : Trim n (l.set k (l.getD k 0 - 1)) r) : Trim (n + 1) l r
theorem Trim.one {n : Nat} {l r r' : List Int} (h : Trim n l r) (h' : Trim n l r') : r = r' := by
  induction h with
  | done l => cases h'; rfl
  | more n k l r hf hr ih =>
    cases h' with
    | more _ k' _ _ hf' hr' =>
      obtain rfl := hf.one hf'
      exact ih hr'
/-- The shares of counts. -/
def NormR (c : List Int) (t : Int) (r : List Int) : Prop :=
  if (c.map (nShare t c.sum)).sum < t then ∃ k, IsFirst c k ∧ r = (c.map (nShare t c.sum)).set k ((c.map (nShare t c.sum)).getD k 0 + (t - (c.map (nShare t c.sum)).sum))
  else Trim ((c.map (nShare t c.sum)).sum - t).toNat (c.map (nShare t c.sum)) r
theorem NormR.one {c : List Int} {t : Int} {r r' : List Int} (h : NormR c t r) (h' : NormR c t r') : r = r' := by
  unfold NormR at h h'
  split at h
  · rename_i hlt
    rw [if_pos hlt] at h'
    obtain ⟨k, hk, rfl⟩ := h
    obtain ⟨k', hk', rfl⟩ := h'
    rw [hk.one hk']
  · rename_i hlt
    rw [if_neg hlt] at h'
    exact h.one h'

/-- How many are above 0. -/
def many (l : List Int) : Int := (l.map fun x => if 0 < x then (1 : Int) else 0).sum
theorem set_sum14 : ∀ (l : List Int) (k : Nat) (x : Int), k < l.length → (l.set k x).sum = l.sum + (x - l.getD k 0) := by
  intro l
  induction l with
  | nil => intro k x h; simp at h
  | cons a l ih =>
    intro k x h
    cases k with
    | zero => simp; omega
    | succ k => have := ih k x (by simpa using h); simp at this ⊢; omega
theorem getD_set14 (l : List Int) (k j : Nat) (x : Int) (h : k < l.length) : (l.set k x).getD j 0 = if k = j then x else l.getD j 0 := by
  by_cases e : k = j
  · subst e; simp [List.getD_eq_getElem?_getD, h]
  · simp [List.getD_eq_getElem?_getD, List.getElem?_set_ne e, e]
/-- The same places are above 0. -/
def Alike (c l : List Int) : Prop := l.length = c.length ∧ ∀ j, j < c.length → 0 ≤ l.getD j 0 ∧ (l.getD j 0 = 0 ↔ c.getD j 0 = 0)
theorem Alike.many {c l : List Int} (h : Alike c l) (hc : ∀ x ∈ c, 0 ≤ x) : many l = many c := by
  have e : (l.map fun x => if 0 < x then (1 : Int) else 0) = c.map fun x => if 0 < x then (1 : Int) else 0 := by
    refine List.ext_getElem (by simp [h.1]) fun j h1 h2 => ?_
    simp only [List.getElem_map]
    have hj : j < c.length := by simpa using h2
    have hl : j < l.length := by simpa using h1
    have hx := h.2 j hj
    have e1 : l.getD j 0 = l[j] := by simp [List.getD_eq_getElem?_getD, hl]
    have e2 : c.getD j 0 = c[j] := by simp [List.getD_eq_getElem?_getD, hj]
    rw [e1, e2] at hx
    have := hc _ (List.getElem_mem hj)
    by_cases h0 : 0 < l[j]
    · rw [if_pos h0, if_pos (by have := hx.2; omega)]
    · rw [if_neg h0, if_neg (by have := hx.2; omega)]
  unfold Go.Proofs.Ytjncmfoommlldaa.many; rw [e]
theorem sum_le_many {l : List Int} (h : ∀ x ∈ l, x ≤ 1) (h0 : ∀ x ∈ l, 0 ≤ x) : l.sum ≤ many l := by
  induction l with
  | nil => simp [many]
  | cons a l ih =>
    have h1 := ih (fun x hx => h x (List.mem_cons_of_mem _ hx)) (fun x hx => h0 x (List.mem_cons_of_mem _ hx))
    have h2 := h a List.mem_cons_self
    have h3 := h0 a List.mem_cons_self
    simp only [many, List.map_cons, List.sum_cons] at h1 ⊢
    split <;> omega
theorem all_nn14 {c l : List Int} (h : Alike c l) : ∀ x ∈ l, 0 ≤ x := by
  intro x hx
  obtain ⟨j, hj, rfl⟩ := List.getElem_of_mem hx
  have := (h.2 j (by rw [← h.1]; exact hj)).1
  simpa [List.getD_eq_getElem?_getD, hj] using this
/-- Where they are too many, the greatest is more than 1. -/
theorem first_two {c l : List Int} (ha : Alike c l) (hc : ∀ x ∈ c, 0 ≤ x) {t : Int} (ht : many c ≤ t) (hs : t < l.sum) {k : Nat} (hk : IsFirst l k) : 2 ≤ l.getD k 0 := by
  refine Int.not_lt.1 fun h => ?_
  have h1 : ∀ x ∈ l, x ≤ 1 := by
    intro x hx
    obtain ⟨j, hj, rfl⟩ := List.getElem_of_mem hx
    have := hk.2.1 j hj
    have e : l.getD j 0 = l[j] := by simp [List.getD_eq_getElem?_getD, hj]
    omega
  have := sum_le_many h1 (all_nn14 ha)
  rw [ha.many hc] at this
  omega
theorem Trim.keeps {c : List Int} {t : Int} (hc : ∀ x ∈ c, 0 ≤ x) (ht : many c ≤ t) {n : Nat} {l r : List Int} (h : Trim n l r) : Alike c l → l.sum = t + n → Alike c r ∧ r.sum = t := by
  induction h with
  | done l => intro ha hs; exact ⟨ha, by simpa using hs⟩
  | more n k l r hf hr ih =>
    intro ha hs
    have h2 := first_two ha hc ht (by omega) hf
    refine ih ⟨by rw [List.length_set]; exact ha.1, fun j hj => ?_⟩ (by rw [set_sum14 l k _ hf.1]; omega)
    rw [getD_set14 l k j _ hf.1]
    have := ha.2 j hj
    split
    · rename_i e; subst e; constructor
      · omega
      · constructor
        · intro; omega
        · intro hz; have := this.2.2 hz; omega
    · exact this
theorem nShare_nn {t s c : Int} (hc : 0 ≤ c) (ht : 0 ≤ t) (hs : 0 < s) : 0 ≤ nShare t s c ∧ (nShare t s c = 0 ↔ c = 0) := by
  unfold nShare
  have h0 : 0 ≤ c * t / s := Int.ediv_nonneg (Int.mul_nonneg hc ht) (by omega)
  by_cases h : 0 < c ∧ c * t / s = 0
  · rw [if_pos h]; constructor
    · decide
    · constructor
      · intro x; cases x
      · intro x; omega
  · rw [if_neg h]
    refine ⟨h0, fun x => ?_, fun x => by subst x; simp⟩
    rcases Int.lt_or_le 0 c with hp | hp
    · exact (h ⟨hp, x⟩).elim
    · omega
theorem alike_shares {c : List Int} (hc : ∀ x ∈ c, 0 ≤ x) {t : Int} (ht : 0 ≤ t) (hs : 0 < c.sum) : Alike c (c.map (nShare t c.sum)) := by
  refine ⟨by simp, fun j hj => ?_⟩
  have e1 : (c.map (nShare t c.sum)).getD j 0 = nShare t c.sum c[j] := by simp [List.getD_eq_getElem?_getD, hj]
  have e2 : c.getD j 0 = c[j] := by simp [List.getD_eq_getElem?_getD, hj]
  rw [e1, e2]
  exact nShare_nn (hc _ (List.getElem_mem hj)) ht hs
/-- P14.3. -/
theorem NormR.keeps {c : List Int} (hc : ∀ x ∈ c, 0 ≤ x) {t : Int} (ht0 : 0 ≤ t) (hs : 0 < c.sum) (ht : many c ≤ t) {r : List Int} (h : NormR c t r) : Alike c r ∧ r.sum = t := by
  have ha := alike_shares hc ht0 hs
  unfold NormR at h
  split at h
  · rename_i hlt
    obtain ⟨k, hk, rfl⟩ := h
    have hkl : k < (c.map (nShare t c.sum)).length := by simpa using hk.1
    refine ⟨⟨by simp, fun j hj => ?_⟩, by rw [set_sum14 _ k _ hkl]; omega⟩
    rw [getD_set14 _ k j _ hkl]
    have h1 := ha.2 j hj
    split
    · rename_i e; subst e
      have hpos : 0 < c.getD k 0 := by
        refine Int.not_le.1 fun hle => ?_
        have hall : ∀ x ∈ c, x = 0 := fun x hx => by
          obtain ⟨i, hi, rfl⟩ := List.getElem_of_mem hx
          have := hk.2.1 i hi
          have e : c.getD i 0 = c[i] := by simp [List.getD_eq_getElem?_getD, hi]
          have := hc _ (List.getElem_mem hi)
          omega
        have : c.sum = 0 := by
          clear hs ha h1 hlt hk hkl hj ht hle hc
          induction c with
          | nil => rfl
          | cons a c ih => simp [hall a List.mem_cons_self, ih fun x hx => hall x (List.mem_cons_of_mem _ hx)]
        omega
      constructor
      · omega
      · constructor
        · intro; omega
        · intro hz; omega
    · exact h1
  · rename_i hlt
    exact h.keeps hc ht ha (by omega)

/-- Of some there is a first greatest one. -/
theorem first_some (l : List Int) (h : 0 < l.length) : ∃ k, IsFirst l k := by
  have key : ∀ i, 0 < i → i ≤ l.length → ∃ k, IsFirst (l.take i) k := by
    intro i
    induction i with
    | zero => intro h; omega
    | succ i ih =>
      intro _ hi
      rcases Nat.eq_zero_or_pos i with rfl | h0
      · exact ⟨0, first_start l h⟩
      · obtain ⟨k, hk⟩ := ih h0 (by omega)
        exact ⟨_, first_next l hk (by omega)⟩
  obtain ⟨k, hk⟩ := key l.length h (Nat.le_refl _)
  rw [List.take_length] at hk
  exact ⟨k, hk⟩
theorem many_pos {c : List Int} (hc : ∀ x ∈ c, 0 ≤ x) : 0 ≤ many c ∧ many c ≤ c.sum := by
  induction c with
  | nil => simp [many]
  | cons a c ih =>
    have h1 := ih fun x hx => hc x (List.mem_cons_of_mem _ hx)
    have h2 := hc a List.mem_cons_self
    simp only [many, List.map_cons, List.sum_cons] at h1 ⊢
    split <;> omega
theorem nShare_le {t s x : Int} (hx : x ≤ s) (ht : 1 ≤ t) (hs : 0 < s) : nShare t s x ≤ t := by
  unfold nShare
  split
  · exact ht
  · refine Int.ediv_le_of_le_mul hs ?_
    rw [Int.mul_comm t s]
    exact Int.mul_le_mul_of_nonneg_right hx (by omega)
theorem sum_most (M : Nat) {l : List Int} (h : ∀ x ∈ l, x ≤ (M : Int)) : l.sum ≤ ((l.length * M : Nat) : Int) := by
  induction l with
  | nil => simp
  | cons a l ih =>
    have h1 := ih fun x hx => h x (List.mem_cons_of_mem _ hx)
    have h2 := h a List.mem_cons_self
    simp only [List.sum_cons, List.length_cons, Nat.succ_mul]
    omega
/-- The greatest of some that are above 0 together is above 0. -/
theorem first_pos {c : List Int} {k : Nat} (hk : IsFirst c k) (hs : 0 < c.sum) : 0 < c.getD k 0 := by
  refine Int.not_le.1 fun hle => ?_
  have hall : ∀ x ∈ c, x ≤ ((0 : Nat) : Int) := fun x hx => by
    obtain ⟨i, hi, rfl⟩ := List.getElem_of_mem hx
    have := hk.2.1 i hi
    have e : c.getD i 0 = c[i] := by simp [List.getD_eq_getElem?_getD, hi]
    simp only [Int.natCast_zero]
    omega
  have := sum_most 0 hall
  simp at this
  omega
/-- One byte more is counted. -/
def cntStep (acc : List Int) (b : UInt8) : List Int := acc.set b.toNat (acc.getD b.toNat 0 + 1)
/-- How often each byte is there. -/
def cntL (l : List UInt8) : List Int := l.foldl cntStep (List.replicate 256 0)
theorem cntL_snoc (l : List UInt8) (b : UInt8) : cntL (l ++ [b]) = cntStep (cntL l) b := by unfold cntL; rw [List.foldl_append]; rfl
theorem cntL_take (l : List UInt8) {k : Nat} (h : k < l.length) : cntL (l.take (k + 1)) = cntStep (cntL (l.take k)) l[k] := by
  rw [List.take_add_one, List.getElem?_eq_getElem h]; exact cntL_snoc _ _
theorem cnt_fold (l : List UInt8) : ∀ (acc : List Int) (M : Nat), acc.length = 256 → (∀ x ∈ acc, 0 ≤ x ∧ x ≤ (M : Int)) → (l.foldl cntStep acc).length = 256 ∧ ∀ x ∈ l.foldl cntStep acc, 0 ≤ x ∧ x ≤ ((M + l.length : Nat) : Int) := by
  induction l with
  | nil => intro acc M h1 h2; exact ⟨h1, h2⟩
  | cons b l ih =>
    intro acc M h1 h2
    have hb : b.toNat < acc.length := by rw [h1]; exact b.toNat_lt
    have e : acc.getD b.toNat 0 = acc[b.toNat] := by simp [List.getD_eq_getElem?_getD, hb]
    have hg := h2 _ (List.getElem_mem hb)
    have := ih (cntStep acc b) (M + 1) (by simp [cntStep, h1]) (fun x hx => by
      rcases List.mem_or_eq_of_mem_set hx with h | h
      · have := h2 x h; omega
      · rw [h, e]; omega)
    simp only [List.foldl_cons, List.length_cons]
    refine ⟨this.1, fun x hx => ?_⟩
    have := this.2 x hx
    omega
theorem cntL_len (l : List UInt8) : (cntL l).length = 256 := (cnt_fold l (List.replicate 256 0) 0 List.length_replicate (fun x hx => by obtain ⟨-, rfl⟩ := List.mem_replicate.1 hx; omega)).1
theorem cntL_le (l : List UInt8) : ∀ x ∈ cntL l, 0 ≤ x ∧ x ≤ (l.length : Int) := fun x hx => by
  have := (cnt_fold l (List.replicate 256 0) 0 List.length_replicate (fun x hx => by obtain ⟨-, rfl⟩ := List.mem_replicate.1 hx; omega)).2 x hx
  omega
theorem cntStep_get (acc : List Int) (h : acc.length = 256) (b : UInt8) (j : Nat) : (cntStep acc b).getD j 0 = if b.toNat = j then acc.getD j 0 + 1 else acc.getD j 0 := by
  have hb : b.toNat < acc.length := by rw [h]; exact b.toNat_lt
  unfold cntStep
  rw [getD_set14 acc b.toNat j _ hb]
  split
  · rename_i e; rw [e]
  · rfl
theorem cnt_grow (l : List UInt8) : ∀ (acc : List Int), acc.length = 256 → ∀ j, acc.getD j 0 ≤ (l.foldl cntStep acc).getD j 0 := by
  induction l with
  | nil => intro acc _ j; exact Int.le_refl _
  | cons b l ih =>
    intro acc h j
    have h1 := ih (cntStep acc b) (by simp [cntStep, h]) j
    rw [cntStep_get acc h b j] at h1
    simp only [List.foldl_cons]
    split at h1 <;> omega
/-- What is there is counted. -/
theorem cnt_mem (l : List UInt8) : ∀ (acc : List Int), acc.length = 256 → (∀ j, 0 ≤ acc.getD j 0) → ∀ b ∈ l, 0 < (l.foldl cntStep acc).getD b.toNat 0 := by
  induction l with
  | nil => intro acc _ _ b hb; simp at hb
  | cons a l ih =>
    intro acc h h0 b hb
    have hl : (cntStep acc a).length = 256 := by simp [cntStep, h]
    simp only [List.foldl_cons]
    rcases List.mem_cons.1 hb with rfl | hb
    · have h1 := cnt_grow l (cntStep acc b) hl b.toNat
      rw [cntStep_get acc h b b.toNat, if_pos rfl] at h1
      have := h0 b.toNat
      omega
    · refine ih (cntStep acc a) hl (fun j => ?_) b hb
      rw [cntStep_get acc h a j]
      have := h0 j
      split <;> omega
theorem cntL_mem {l : List UInt8} {b : UInt8} (h : b ∈ l) : 0 < (cntL l).getD b.toNat 0 :=
  cnt_mem l (List.replicate 256 0) List.length_replicate (fun j => by
    rw [List.getD_eq_getElem?_getD, List.getElem?_replicate]
    split
    · exact Int.le_refl _
    · exact Int.le_refl _) b h
end Go.Proofs.Ytjncmfoommlldaa
