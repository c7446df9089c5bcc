/- Plain mathematics of layer 20: heaps of things, as the library keeps them. -/
import Derived.Lib.BitFns
namespace Go.Proofs.Ytjncmfoommlldaa

/-- A thing: its weight, its number. -/
abbrev Pr := Nat × Nat
def pl (x y : Pr) : Bool := decide (x.1 < y.1) || (decide (x.1 = y.1) && decide (x.2 < y.2))
theorem pl_yes {x y : Pr} : pl x y = true ↔ x.1 < y.1 ∨ (x.1 = y.1 ∧ x.2 < y.2) := by simp [pl]
theorem pl_no {x y : Pr} : pl x y = false ↔ y.1 < x.1 ∨ (x.1 = y.1 ∧ y.2 ≤ x.2) := by
  rw [← Bool.not_eq_true, pl_yes]; omega
theorem pl_flip {x y : Pr} (h : pl x y = true) : pl y x = false := by rw [pl_yes] at h; rw [pl_no]; omega
theorem pl_trans {x y z : Pr} (h1 : pl x y = false) (h2 : pl y z = false) : pl x z = false := by rw [pl_no] at *; omega
theorem pl_trans1 {x y z : Pr} (h1 : pl x y = false) (h2 : pl z y = true) : pl x z = false := by rw [pl_yes] at h2; rw [pl_no] at *; omega
theorem pl_other {x y : Pr} (h : pl x y = false) (hne : x ≠ y) : pl y x = true := by
  rw [pl_no] at h
  rw [pl_yes]
  have : ¬ (x.1 = y.1 ∧ x.2 = y.2) := fun e => hne (Prod.ext e.1 e.2)
  omega

def pat (l : List Pr) (i : Nat) : Pr := l.getD i (0, 0)
def par (i : Nat) : Nat := (i - 1) / 2
theorem par_lt {i : Nat} (h : 0 < i) : par i < i := by unfold par; omega
def swapP (l : List Pr) (i j : Nat) : List Pr := (l.set i (pat l j)).set j (pat l i)
theorem swapP_len (l : List Pr) (i j : Nat) : (swapP l i j).length = l.length := by simp [swapP]
theorem pat_get {l : List Pr} {i : Nat} (h : i < l.length) : pat l i = l[i] := by simp [pat, List.getD_eq_getElem?_getD, h]
theorem pat_set (l : List Pr) (i k : Nat) (x : Pr) (h : i < l.length) : pat (l.set i x) k = if k = i then x else pat l k := by
  unfold pat
  rw [List.getD_eq_getElem?_getD, List.getD_eq_getElem?_getD, List.getElem?_set]
  by_cases e : i = k
  · subst e; simp [h]
  · rw [if_neg e, if_neg (fun x => e x.symm)]
theorem pat_swap {l : List Pr} {i j : Nat} (hi : i < l.length) (hj : j < l.length) (k : Nat) : pat (swapP l i j) k = if k = j then pat l i else if k = i then pat l j else pat l k := by
  unfold swapP
  rw [pat_set _ _ _ _ (by simpa using hj), pat_set _ _ _ _ hi]
theorem swap_perm {l : List Pr} {i j : Nat} (hi : i < l.length) (hj : j < l.length) : (swapP l i j).Perm l := by
  unfold swapP
  rw [pat_get hi, pat_get hj]
  exact List.set_set_perm hi hj

def HeapN (l : List Pr) (n : Nat) : Prop := ∀ i, 0 < i → i < n → pl (pat l i) (pat l (par i)) = false
def IsHeap (l : List Pr) : Prop := HeapN l l.length
structure UpOk (l : List Pr) (j : Nat) : Prop where
  lt : j < l.length
  rest : ∀ i, 0 < i → i < l.length → i ≠ j → pl (pat l i) (pat l (par i)) = false
  over : ∀ i, 0 < i → i < l.length → par i = j → 0 < j → pl (pat l i) (pat l (par j)) = false
theorem UpOk.done {l : List Pr} {j : Nat} (h : UpOk l j) (he : j = 0 ∨ pl (pat l j) (pat l (par j)) = false) : IsHeap l := fun i h0 hi => by
  by_cases e : i = j
  · subst e
    rcases he with he | he
    · omega
    · exact he
  · exact h.rest i h0 hi e
theorem UpOk.step {l : List Pr} {j : Nat} (h : UpOk l j) (h0 : 0 < j) (he : pl (pat l j) (pat l (par j)) = true) : UpOk (swapP l (par j) j) (par j) := by
  have hp := par_lt h0
  have hl := h.lt
  have hpl : par j < l.length := by omega
  refine ⟨by rw [swapP_len]; omega, fun i g0 g1 g2 => ?_, fun i g0 g1 g2 g3 => ?_⟩
  · rw [swapP_len] at g1
    rw [pat_swap hpl hl, pat_swap hpl hl]
    by_cases e : i = j
    · subst e
      rw [if_pos rfl, if_neg (by omega), if_pos rfl]
      exact pl_flip he
    · rw [if_neg e, if_neg g2]
      have h1 := h.rest i g0 g1 e
      by_cases e1 : par i = j
      · rw [if_pos e1]
        exact h.over i g0 g1 e1 h0
      · rw [if_neg e1]
        by_cases e2 : par i = par j
        · rw [if_pos e2]
          rw [e2] at h1
          exact pl_trans1 h1 he
        · rw [if_neg e2]; exact h1
  · rw [swapP_len] at g1
    have hpp := par_lt g3
    rw [pat_swap hpl hl, pat_swap hpl hl]
    rw [if_neg (show ¬ par (par j) = j by omega), if_neg (show ¬ par (par j) = par j by omega)]
    have h1 := h.rest (par j) g3 hpl (by omega)
    by_cases e : i = j
    · rw [if_pos e]; exact h1
    · have hi := par_lt g0
      rw [if_neg e, if_neg (by omega)]
      have h2 := h.rest i g0 g1 e
      rw [g2] at h2
      exact pl_trans h2 h1
theorem pat_push (l : List Pr) (x : Pr) (k : Nat) : pat (l ++ [x]) k = if k < l.length then pat l k else if k = l.length then x else (0, 0) := by
  unfold pat
  rw [List.getD_eq_getElem?_getD, List.getD_eq_getElem?_getD]
  by_cases h : k < l.length
  · rw [if_pos h, List.getElem?_append_left h]
  · rw [if_neg h, List.getElem?_append_right (by omega)]
    by_cases e : k = l.length
    · subst e; simp
    · rw [if_neg e, List.getElem?_eq_none (by simp; omega)]; rfl
theorem push_up {l : List Pr} (h : IsHeap l) (x : Pr) : UpOk (l ++ [x]) l.length := by
  refine ⟨by simp, fun i g0 g1 g2 => ?_, fun i g0 g1 g2 g3 => ?_⟩
  · have hp := par_lt g0
    rw [List.length_append, List.length_singleton] at g1
    rw [pat_push, pat_push, if_pos (by omega), if_pos (by omega)]
    exact h i g0 (by omega)
  · have hp := par_lt g0
    rw [List.length_append, List.length_singleton] at g1
    omega
structure DownOk (l : List Pr) (n i : Nat) : Prop where
  most : n ≤ l.length
  rest : ∀ k, 0 < k → k < n → par k ≠ i → pl (pat l k) (pat l (par k)) = false
  over : ∀ k, 0 < k → k < n → par k = i → 0 < i → pl (pat l k) (pat l (par i)) = false
theorem DownOk.done {l : List Pr} {n i : Nat} (h : DownOk l n i) (he : ∀ k, 0 < k → k < n → par k = i → pl (pat l k) (pat l i) = false) : HeapN l n := fun k h0 hk => by
  by_cases e : par k = i
  · rw [e]; exact he k h0 hk e
  · exact h.rest k h0 hk e
theorem DownOk.step {l : List Pr} {n i j : Nat} (h : DownOk l n i) (h0 : 0 < j) (hj : j < n) (hp : par j = i) (hm : ∀ k, 0 < k → k < n → par k = i → pl (pat l k) (pat l j) = false) (he : pl (pat l j) (pat l i) = true) :
    DownOk (swapP l i j) n j := by
  have hij := par_lt h0
  have hmo := h.most
  have hil : i < l.length := by omega
  have hjl : j < l.length := by omega
  refine ⟨by rw [swapP_len]; exact hmo, fun k g0 g1 g2 => ?_, fun k g0 g1 g2 g3 => ?_⟩
  · have hk := par_lt g0
    rw [pat_swap hil hjl, pat_swap hil hjl, if_neg g2]
    by_cases e : k = j
    · subst e
      rw [if_pos rfl, if_pos hp]
      exact pl_flip he
    · rw [if_neg e]
      by_cases e1 : par k = i
      · rw [if_pos e1, if_neg (by omega)]
        exact hm k g0 g1 e1
      · rw [if_neg e1]
        by_cases e2 : k = i
        · subst e2
          rw [if_pos rfl]
          exact h.over j h0 hj hp g0
        · rw [if_neg e2]
          exact h.rest k g0 g1 e1
  · have hk := par_lt g0
    rw [pat_swap hil hjl, pat_swap hil hjl, hp, if_neg (by omega), if_neg (by omega), if_neg (by omega), if_pos rfl]
    have h1 := h.rest k g0 g1 (by omega)
    rw [g2] at h1
    exact h1
theorem pop_down {l : List Pr} {n : Nat} (h : IsHeap l) (hn : l.length = n + 1) : DownOk (swapP l 0 n) n 0 := by
  refine ⟨by rw [swapP_len]; omega, fun k g0 g1 g2 => ?_, fun k g0 g1 g2 g3 => by omega⟩
  have hk := par_lt g0
  rw [pat_swap (by omega) (by omega), pat_swap (by omega) (by omega), if_neg (by omega), if_neg (by omega), if_neg (by omega), if_neg g2]
  exact h k g0 (by omega)
theorem heap_least {l : List Pr} (h : IsHeap l) : ∀ k, k < l.length → pl (pat l k) (pat l 0) = false := by
  intro k
  induction k using Nat.strongRecOn with
  | _ k ih =>
    intro hk
    by_cases h0 : k = 0
    · subst h0; rw [pl_no]; omega
    · have hp := par_lt (i := k) (by omega)
      exact pl_trans (h k (by omega) hk) (ih (par k) hp (by omega))
/-- A heap of just the things that are S. -/
structure HeapSet (S : Pr → Prop) (l : List Pr) : Prop where
  heap : IsHeap l
  nodup : l.Nodup
  mem : ∀ p, p ∈ l ↔ S p
theorem HeapSet.push {S : Pr → Prop} {l l' : List Pr} {x : Pr} (h : HeapSet S l) (hx : ¬ S x) (hp : l'.Perm (l ++ [x])) (hh : IsHeap l') : HeapSet (fun p => S p ∨ p = x) l' := by
  refine ⟨hh, ?_, fun p => ?_⟩
  · rw [hp.nodup_iff, List.nodup_append]
    refine ⟨h.nodup, by simp, fun a ha b hb e => ?_⟩
    rw [List.mem_singleton] at hb
    subst hb; subst e
    exact hx ((h.mem a).1 ha)
  · rw [hp.mem_iff, List.mem_append, List.mem_singleton, h.mem]
theorem pop_set {S : Pr → Prop} {l m : List Pr} {n : Nat} (h : HeapSet S l) (hn : l.length = n + 1) (hp : m.Perm l) (hm : pat m n = pat l 0) (hh : HeapN m n) :
    S (pat l 0) ∧ (∀ p, S p → p ≠ pat l 0 → pl (pat l 0) p = true) ∧ HeapSet (fun p => S p ∧ p ≠ pat l 0) (m.take n) := by
  have hml : m.length = n + 1 := by rw [hp.length_eq, hn]
  have hx : pat l 0 ∈ l := by rw [pat_get (by omega)]; exact List.getElem_mem _
  have e : m = m.take n ++ [pat l 0] := by
    have h1 := List.take_append_drop n m
    have h2 : m.drop n = [pat l 0] := by
      rw [← hm, pat_get (by omega), List.drop_eq_getElem_cons (by omega), List.drop_eq_nil_of_le (by omega)]
    rw [h2] at h1
    exact h1.symm
  have hnd : (m.take n ++ [pat l 0]).Nodup := by rw [← e, hp.nodup_iff]; exact h.nodup
  rw [List.nodup_append] at hnd
  refine ⟨(h.mem _).1 hx, fun p hs hne => ?_, ?_, hnd.1, fun p => ?_⟩
  · obtain ⟨k, hk, rfl⟩ := List.mem_iff_getElem.1 ((h.mem p).2 hs)
    have := heap_least h.heap k hk
    rw [pat_get hk] at this
    exact pl_other this hne
  · intro i h0 hi
    rw [List.length_take, Nat.min_eq_left (by omega)] at hi
    have hpi := par_lt h0
    have ht : ∀ k, k < n → pat (m.take n) k = pat m k := fun k hk => by
      unfold pat; rw [List.getD_eq_getElem?_getD, List.getD_eq_getElem?_getD, List.getElem?_take_of_lt hk]
    rw [ht i hi, ht _ (by omega)]
    exact hh i h0 hi
  · have h1 : p ∈ l ↔ p ∈ m.take n ∨ p = pat l 0 := by
      have h2 : p ∈ m ↔ p ∈ m.take n ++ [pat l 0] := by rw [← e]
      rw [← hp.mem_iff, h2, List.mem_append, List.mem_singleton]
    constructor
    · intro hp'
      refine ⟨(h.mem p).1 (h1.2 (.inl hp')), fun e' => ?_⟩
      exact hnd.2.2 p hp' (pat l 0) (by simp) e'
    · rintro ⟨hs, hne⟩
      rcases h1.1 ((h.mem p).2 hs) with h2 | h2
      · exact h2
      · exact absurd h2 hne
end Go.Proofs.Ytjncmfoommlldaa
