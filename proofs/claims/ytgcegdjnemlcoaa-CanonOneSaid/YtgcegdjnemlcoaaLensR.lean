/- Plain mathematics of layer 20: the tree as a row of places above; lens of counts; halving. -/
import Derived.Test.YtgcegdjnemlcoaaLensMath
import Derived.Test.YtgcegdjnemlcoaaHeapMath
namespace Go.Proofs.Ytgcegdjnemlcoaa

/-- Things that are here, as pairs. -/
def ForSet (f : For) (p : Pr) : Prop := f.here p.2 = true ∧ p.1 = f.wt p.2
theorem for_least {f : For} {p : Pr} {S : Pr → Prop} {q : Nat → Prop} (hS : ∀ x, S x → ForSet f x) (hq : ∀ m, q m → S (f.wt m, m)) (hq2 : ∀ x, S x → q x.2) (h1 : S p) (h2 : ∀ x, S x → x ≠ p → pl p x = true) : f.least q p.2 := by
  refine ⟨hq2 p h1, fun m hm hne => ?_⟩
  have h3 := h2 _ (hq m hm) (fun e => hne (by rw [← e]))
  have h4 := (hS p h1).2
  rw [pl_yes] at h3
  unfold For.lt
  rw [← h4]
  exact h3
/-- Both go, and one comes. -/
theorem for_both {f : For} {L : Nat} {pa pb : Pr} (ho : f.Ok L) (ha : ForSet f pa) (hb : ForSet f pb) :
    ∀ p, (((ForSet f p ∧ p ≠ pa) ∧ p ≠ pb) ∨ p = (pa.1 + pb.1, f.N)) ↔ ForSet (f.both pa.2 pb.2) p := by
  intro p
  have key : ∀ {x y : Pr}, ForSet f x → ForSet f y → (x ≠ y ↔ x.2 ≠ y.2) := fun {x y} hx hy => by
    refine ⟨fun h e => h (Prod.ext ?_ e), fun h e => h (by rw [e])⟩
    rw [hx.2, hy.2, e]
  unfold ForSet
  rw [For.both_here]
  constructor
  · rintro (⟨⟨h1, h2⟩, h3⟩ | rfl)
    · have g2 := (key h1 ha).1 h2
      have g3 := (key h1 hb).1 h3
      exact ⟨.inr ⟨g2, g3, h1.1⟩, by rw [For.both_wt _ (ho.less _ h1.1)]; exact h1.2⟩
    · refine ⟨.inl rfl, ?_⟩
      show pa.1 + pb.1 = (f.both pa.2 pb.2).wt f.N
      rw [For.both_wtN, ha.2, hb.2]
  · rintro ⟨h1 | ⟨h1, h2, h3⟩, h4⟩
    · right
      refine Prod.ext ?_ h1
      show p.1 = pa.1 + pb.1
      rw [h4, h1, For.both_wtN, ha.2, hb.2]
    · have hp : ForSet f p := ⟨h3, by rw [h4, For.both_wt _ (ho.less _ h3)]⟩
      exact .inl ⟨⟨hp, (key hp ha).2 h1⟩, (key hp hb).2 h2⟩
/-- The row of places above. -/
structure TreeOk (f : For) (ab : List Nat) : Prop where
  len : ab.length = f.N
  top : ∀ i, i < f.N → f.here i = true → f.root i = i ∧ f.d i = 0
  low : ∀ i, i < f.N → f.here i = false → i < ab.getD i 0 ∧ ab.getD i 0 < f.N ∧ f.root i = f.root (ab.getD i 0) ∧ f.d i = f.d (ab.getD i 0) + 1
  new : ∀ i, f.N ≤ i → f.root i = i ∧ f.d i = 0
  last : 0 < f.N → f.here (f.N - 1) = true
theorem tree_start (L : Nat) (w : Nat → Nat) : TreeOk (For.start L w) (List.replicate L 0) :=
  ⟨by simp [For.start], fun i _ _ => ⟨rfl, rfl⟩, fun i h1 h2 => by
    have h3 : decide (i < L) = false := h2
    have h4 : i < L := h1
    simp at h3; omega, fun i _ => ⟨rfl, rfl⟩, fun h => by
    show decide (L - 1 < L) = true
    have h4 : 0 < L := h
    simp; omega⟩
theorem tree_both {f : For} {ab : List Nat} {a b : Nat} (h : TreeOk f ab) (ha : f.here a = true) (hb : f.here b = true) (haN : a < f.N) (hbN : b < f.N) : TreeOk (f.both a b) ((ab.set a f.N).set b f.N ++ [0]) := by
  have hl := h.len
  have hab : ∀ i, i < f.N → ((ab.set a f.N).set b f.N ++ [0]).getD i 0 = if i = a ∨ i = b then f.N else ab.getD i 0 := fun i hi => by
    rw [List.getD_eq_getElem?_getD, List.getD_eq_getElem?_getD, List.getElem?_append_left (by simp; omega), List.getElem?_set, List.getElem?_set]
    by_cases e1 : i = b
    · rw [if_pos e1.symm, if_pos (show b < (ab.set a f.N).length by rw [List.length_set]; omega), if_pos (show i = a ∨ i = b from .inr e1)]; rfl
    · rw [if_neg (fun x => e1 x.symm)]
      by_cases e2 : i = a
      · rw [if_pos e2.symm, if_pos (show a < ab.length by omega), if_pos (show i = a ∨ i = b from .inl e2)]; rfl
      · rw [if_neg (fun x => e2 x.symm), if_neg (fun x => x.elim e2 e1)]
  have hdd : ∀ j, (f.both a b).d j = if f.root j = a ∨ f.root j = b then f.d j + 1 else f.d j := fun j => rfl
  have hrr : ∀ j, (f.both a b).root j = if f.root j = a ∨ f.root j = b then f.N else f.root j := fun j => rfl
  obtain ⟨gN1, gN2⟩ := h.new f.N (Nat.le_refl _)
  have hrN : (f.both a b).root f.N = f.N := by rw [hrr, gN1, if_neg (by omega)]
  have hdN : (f.both a b).d f.N = 0 := by rw [hdd, gN1, if_neg (by omega), gN2]
  refine ⟨?_, fun i hi hh => ?_, fun i hi hh => ?_, fun i hi => ?_, fun _ => ?_⟩
  · rw [List.length_append, List.length_set, List.length_set, hl]; rfl
  · rcases (For.both_here i).1 hh with rfl | ⟨h1, h2, h3⟩
    · exact ⟨hrN, hdN⟩
    · have h6 : i < f.N + 1 := hi
      have hiN : i < f.N ∨ i = f.N := by omega
      rcases hiN with hiN | rfl
      · obtain ⟨g1, g2⟩ := h.top i hiN h3
        rw [hdd, hrr, g1, if_neg (by omega), if_neg (by omega)]
        exact ⟨rfl, g2⟩
      · exact ⟨hrN, hdN⟩
  · have h6 : i < f.N + 1 := hi
    have hne : i ≠ f.N := fun e => by
      subst e
      rw [(For.both_here f.N).2 (.inl rfl)] at hh; cases hh
    have hiN : i < f.N := by omega
    rw [hab i hiN]
    show i < _ ∧ _ < f.N + 1 ∧ _
    by_cases e : i = a ∨ i = b
    · have hhi : f.here i = true := by rcases e with rfl | rfl <;> assumption
      obtain ⟨g1, g2⟩ := h.top i hiN hhi
      rw [if_pos e, hrN, hdN, hrr, hdd, g1, if_pos e, if_pos e, g2]
      exact ⟨hiN, Nat.lt_succ_self _, rfl, rfl⟩
    · have hhi : f.here i = false := by
        cases hx : f.here i with
        | false => rfl
        | true =>
          rw [(For.both_here i).2 (.inr ⟨fun x => e (.inl x), fun x => e (.inr x), hx⟩)] at hh; cases hh
      obtain ⟨g1, g2, g3, g4⟩ := h.low i hiN hhi
      rw [if_neg e, hrr, hrr, hdd, hdd, g3, g4]
      refine ⟨g1, by omega, rfl, ?_⟩
      split <;> rfl
  · have h6 : f.N + 1 ≤ i := hi
    obtain ⟨g1, g2⟩ := h.new i (by omega)
    rw [hrr, hdd, g1, if_neg (by omega), if_neg (by omega)]
    exact ⟨rfl, g2⟩
  · exact (For.both_here _).2 (.inl (by show f.N + 1 - 1 = f.N; omega))

/-- At the end: the last one alone is here. -/
theorem tree_end {f : For} {ab : List Nat} (h : TreeOk f ab) (hl : ∀ m m', f.here m = true → f.here m' = true → m = m') (h0 : 0 < f.N) :
    f.d (f.N - 1) = 0 ∧ ∀ i, i < f.N - 1 → i < ab.getD i 0 ∧ ab.getD i 0 < f.N ∧ f.d i = f.d (ab.getD i 0) + 1 := by
  refine ⟨(h.top _ (by omega) (h.last h0)).2, fun i hi => ?_⟩
  obtain ⟨g1, g2, -, g4⟩ := h.low i (by omega) (by
    cases hx : f.here i with
    | false => rfl
    | true => have := hl _ _ hx (h.last h0); omega)
  exact ⟨g1, g2, g4⟩
/-- A letter beside others has something above it. -/
theorem huff_deep {L : Nat} {w : Nat → Nat} {g : For} (h : Huff (For.start L w) g) (h2 : 2 ≤ L) : ∀ j, j < L → 1 ≤ g.d j := by
  have key : ∀ {f g : For}, Huff f g → f.Ok L → (∀ j, j < L → f.root j < L → f.root j = j) → (∀ j, j < L → L ≤ f.root j → 1 ≤ f.d j) → ∀ j, j < L → 1 ≤ g.d j := by
    intro f g h
    induction h with
    | last f hl =>
      intro ho h1 h3 j hj
      refine h3 j hj (Nat.le_of_not_lt fun hc => ?_)
      have e1 := h1 j hj hc
      obtain ⟨k, hk, hne⟩ : ∃ k, k < L ∧ k ≠ j := by
        by_cases e : j = 0
        · exact ⟨1, by omega, by omega⟩
        · exact ⟨0, by omega, by omega⟩
      have e2 := hl _ _ (ho.root j hj) (ho.root k hk)
      rw [e1] at e2
      have e3 := h1 k hk (by omega)
      omega
    | join f g a b ha hb hr ih =>
      intro ho h1 h3 j hj
      refine ih (For.both_ok ho) (fun j hj => ?_) (fun j hj => ?_) j hj
      · show (if f.root j = a ∨ f.root j = b then f.N else f.root j) < L → (if f.root j = a ∨ f.root j = b then f.N else f.root j) = j
        have := ho.most
        split
        · intro h; omega
        · exact h1 j hj
      · show L ≤ (if f.root j = a ∨ f.root j = b then f.N else f.root j) → 1 ≤ (if f.root j = a ∨ f.root j = b then f.d j + 1 else f.d j)
        split
        · intro _; omega
        · exact h3 j hj
  exact key h (start_ok L w) (fun j _ _ => rfl) (fun j h1 h3 => by have h5 : L ≤ j := h3; omega)

/-- The counts of the letters that are there. -/
def posL (c : List Int) : List Int := c.filter fun x => decide (0 < x)
def wtL (c : List Int) (j : Nat) : Nat := ((posL c).getD j 0).toNat
/-- Lens of letters, by their depths: d tells of those that are there. -/
def lensF (d : Nat → Nat) : List Int → Nat → List Int
  | [], _ => []
  | x :: c, j => if 0 < x then (max (d j) 1 : Nat) :: lensF d c (j + 1) else 0 :: lensF d c j
theorem lensF_len (d : Nat → Nat) : ∀ (c : List Int) (j : Nat), (lensF d c j).length = c.length
  | [], _ => rfl
  | x :: c, j => by
    unfold lensF
    split <;> simp [lensF_len d c]
/-- How many letters are there among the first k. -/
def rankL (c : List Int) (k : Nat) : Nat := (posL (c.take k)).length
theorem rankL_succ (c : List Int) (k : Nat) (h : k < c.length) : rankL c (k + 1) = rankL c k + if 0 < c[k] then 1 else 0 := by
  unfold rankL posL
  rw [List.take_add_one, List.getElem?_eq_getElem h, List.filter_append, List.length_append]
  congr 1
  by_cases e : 0 < c[k] <;> simp [e]
theorem rankL_all (c : List Int) : rankL c c.length = (posL c).length := by unfold rankL; rw [List.take_length]
theorem rankL_mono (c : List Int) : ∀ {k m : Nat}, k ≤ m → m ≤ c.length → rankL c k ≤ rankL c m := by
  intro k m h hm
  obtain ⟨e, rfl⟩ : ∃ e, m = k + e := ⟨m - k, by omega⟩
  clear h
  induction e with
  | zero => exact Nat.le_refl _
  | succ e ih =>
    have h1 := ih (by omega)
    have h2 := rankL_succ c (k + e) (by omega)
    rw [show k + (e + 1) = k + e + 1 by omega, h2]
    omega
theorem rankL_lt (c : List Int) {k : Nat} (h : k < c.length) (h0 : 0 < c[k]) : rankL c k < (posL c).length := by
  have h1 := rankL_succ c k h
  rw [if_pos h0] at h1
  have h2 := rankL_mono c (k := k + 1) (m := c.length) (by omega) (Nat.le_refl _)
  rw [rankL_all] at h2
  omega
theorem rankL_get (c : List Int) {k : Nat} (h : k < c.length) (h0 : 0 < c[k]) : (posL c)[rankL c k]? = some c[k] := by
  have e : c = c.take k ++ c[k] :: c.drop (k + 1) := by rw [← List.drop_eq_getElem_cons h, List.take_append_drop]
  have e2 : posL c = posL (c.take k) ++ c[k] :: posL (c.drop (k + 1)) := by
    conv => lhs; rw [e]
    unfold posL
    rw [List.filter_append, List.filter_cons_of_pos (by simpa using h0)]
  rw [e2, List.getElem?_append_right (by unfold rankL; omega)]
  simp [rankL]
theorem wtL_rank (c : List Int) {k : Nat} (h : k < c.length) (h0 : 0 < c[k]) : wtL c (rankL c k) = (c[k]).toNat := by
  unfold wtL
  rw [List.getD_eq_getElem?_getD, rankL_get c h h0]; rfl
theorem lensF_get (d : Nat → Nat) : ∀ (c : List Int) (j k : Nat) (h : k < c.length), (lensF d c j)[k]? = some (if 0 < c[k] then ((max (d (j + rankL c k)) 1 : Nat) : Int) else 0)
  | [], _, k, h => by simp at h
  | x :: c, j, 0, _ => by
    unfold lensF
    have e : rankL (x :: c) 0 = 0 := by simp [rankL, posL]
    rw [e]
    by_cases h0 : 0 < x
    · rw [if_pos h0]; simp [h0]
    · rw [if_neg h0]; simp [h0]
  | x :: c, j, k + 1, h => by
    have hk : k < c.length := by simpa using h
    unfold lensF
    by_cases h0 : 0 < x
    · rw [if_pos h0, List.getElem?_cons_succ, lensF_get d c (j + 1) k hk]
      have e : rankL (x :: c) (k + 1) = rankL c k + 1 := by simp [rankL, posL, h0]
      rw [e]
      simp only [List.getElem_cons_succ, Nat.add_assoc, Nat.add_comm 1]
    · rw [if_neg h0, List.getElem?_cons_succ, lensF_get d c j k hk]
      have e : rankL (x :: c) (k + 1) = rankL c k := by simp [rankL, posL, h0]
      rw [e]
      simp only [List.getElem_cons_succ]
/-- The lens of counts, however long. -/
def DeepR (c out : List Int) : Prop := ∃ g, Huff (For.start (posL c).length (wtL c)) g ∧ out = lensF g.d c 0
theorem DeepR.one {c o o' : List Int} (h : DeepR c o) (h' : DeepR c o') : o = o' := by
  obtain ⟨g, h1, rfl⟩ := h
  obtain ⟨g', h2, rfl⟩ := h'
  rw [h1.one h2]
theorem DeepR.len {c o : List Int} (h : DeepR c o) : o.length = c.length := by
  obtain ⟨g, -, rfl⟩ := h
  exact lensF_len _ _ _
/-- Half a count, rounded up. -/
def halfI (x : Int) : Int := (x + 1) / 2
def Short (o : List Int) : Prop := ∀ x ∈ o, x ≤ 15
inductive LensOfR : List Int → List Int → Prop
  | done (c o : List Int) (h : DeepR c o) (hs : Short o) : LensOfR c o
  | half (c o r : List Int) (h : DeepR c o) (hs : ¬ Short o) (hr : LensOfR (c.map halfI) r) : LensOfR c r
theorem LensOfR.one {c o o' : List Int} (h : LensOfR c o) (h' : LensOfR c o') : o = o' := by
  induction h with
  | done c o h hs =>
    cases h' with
    | done _ _ h2 hs2 => exact h.one h2
    | half _ o2 _ h2 hs2 _ => exact absurd (h.one h2 ▸ hs) hs2
  | half c o r h hs hr ih =>
    cases h' with
    | done _ _ h2 hs2 => exact absurd (h.one h2 ▸ hs2) hs
    | half _ o2 _ h2 hs2 hr2 => exact ih hr2
theorem allOf_list (l : List Int) (hl : ∀ x ∈ l, 0 ≤ x) : ∀ k, k ≤ l.length → (allOf (fun j => (l.getD j 0).toNat) k : Int) = (l.take k).sum := by
  intro k
  induction k with
  | zero => intro _; rfl
  | succ k ih =>
    intro h
    have h1 : k < l.length := by omega
    rw [List.take_add_one, List.getElem?_eq_getElem h1, List.sum_append]
    simp only [allOf]
    rw [Int.natCast_add, ih (by omega)]
    congr 1
    have h2 := hl _ (List.getElem_mem h1)
    simp [List.getD_eq_getElem?_getD, h1]
    omega
theorem posL_sum (c : List Int) (h : ∀ x ∈ c, 0 ≤ x) : (posL c).sum = c.sum := by
  induction c with
  | nil => rfl
  | cons x c ih =>
    have h1 := ih fun y hy => h y (List.mem_cons_of_mem _ hy)
    have h2 := h x List.mem_cons_self
    unfold posL at *
    by_cases h0 : 0 < x
    · rw [List.filter_cons_of_pos (by simpa using h0), List.sum_cons, List.sum_cons, h1]
    · rw [List.filter_cons_of_neg (by simpa using h0), List.sum_cons, h1]; omega
theorem posL_pos (c : List Int) : ∀ x ∈ posL c, 0 < x := fun x hx => by
  have := (List.mem_filter.1 hx).2
  simpa using this
theorem half_le {x : Int} (h : 0 ≤ x) : 0 ≤ halfI x ∧ halfI x ≤ x := by unfold halfI; omega
theorem half_sum_le (c : List Int) (h : ∀ x ∈ c, 0 ≤ x) : (c.map halfI).sum ≤ c.sum := by
  induction c with
  | nil => exact Int.le_refl _
  | cons x c ih =>
    have h1 := ih fun y hy => h y (List.mem_cons_of_mem _ hy)
    have h2 := half_le (h x List.mem_cons_self)
    rw [List.map_cons, List.sum_cons, List.sum_cons]; omega
theorem half_sum (c : List Int) (h : ∀ x ∈ c, 0 ≤ x) (h2 : ∃ x ∈ c, 2 ≤ x) : (c.map halfI).sum < c.sum := by
  induction c with
  | nil => obtain ⟨x, hx, _⟩ := h2; cases hx
  | cons x c ih =>
    have g := fun y hy => h y (List.mem_cons_of_mem _ hy)
    have g2 := half_le (h x List.mem_cons_self)
    rw [List.map_cons, List.sum_cons, List.sum_cons]
    obtain ⟨y, hy, hy2⟩ := h2
    rcases List.mem_cons.1 hy with rfl | hy
    · have := half_sum_le c g
      have : halfI y < y := by unfold halfI; omega
      omega
    · have := ih g ⟨y, hy, hy2⟩
      omega
theorem sum_small (c : List Int) (h : ∀ x ∈ c, 0 ≤ x) (h2 : ∀ x ∈ c, x < 2) : c.sum ≤ c.length := by
  induction c with
  | nil => exact Int.le_refl _
  | cons x c ih =>
    have h1 := ih (fun y hy => h y (List.mem_cons_of_mem _ hy)) (fun y hy => h2 y (List.mem_cons_of_mem _ hy))
    have := h2 x List.mem_cons_self
    rw [List.sum_cons, List.length_cons]; omega
/-- Halving ends. -/
theorem deep_less {c o : List Int} (h : DeepR c o) (hc : ∀ x ∈ c, 0 ≤ x) (hl : c.length ≤ 1500) (hs : ¬ Short o) : (c.map halfI).sum < c.sum := by
  refine half_sum c hc ?_
  refine Classical.byContradiction fun hno => hs ?_
  obtain ⟨g, hg, rfl⟩ := h
  have hsm : ∀ x ∈ c, x < 2 := fun x hx => Int.not_le.1 fun hx2 => hno ⟨x, hx, hx2⟩
  have hsum := sum_small c hc hsm
  have hp := posL_sum c hc
  have ha := allOf_list (posL c) (fun x hx => Int.le_of_lt (posL_pos c x hx)) (posL c).length (Nat.le_refl _)
  rw [List.take_length, hp] at ha
  have hw : ∀ j, j < (posL c).length → 1 ≤ wtL c j := fun j hj => by
    unfold wtL
    have := posL_pos c _ (List.getElem_mem hj)
    simp [List.getD_eq_getElem?_getD, hj]
    omega
  have hall : allOf (wtL c) (posL c).length ≤ 1500 := by
    have e : allOf (wtL c) (posL c).length = allOf (fun j => ((posL c).getD j 0).toNat) (posL c).length := rfl
    rw [e]
    omega
  intro x hx
  obtain ⟨k, hk, rfl⟩ := List.mem_iff_getElem.1 hx
  rw [lensF_len] at hk
  have h1 := lensF_get g.d c 0 k hk
  rw [List.getElem?_eq_getElem (by rw [lensF_len]; exact hk)] at h1
  rw [Option.some.inj h1]
  split
  · have := huff_small hg hw hall (rankL_lt c hk (by assumption))
    rw [Nat.zero_add]
    omega
  · decide
end Go.Proofs.Ytgcegdjnemlcoaa
