/- Plain mathematics of layer 20: the reference's rounds. -/
import Derived.Test.YtjncmfoommlldaaLensR
namespace Go.Proofs.Ytjncmfoommlldaa

/-- The depths of letters, noughts of those that are not there. -/
def outF (d : Nat → Nat) (c : List Int) : List Int := (List.range c.length).map fun i => if 0 < c.getD i 0 then (d (rankL c i) : Int) else 0
theorem outF_len (d : Nat → Nat) (c : List Int) : (outF d c).length = c.length := by simp [outF]
theorem getD_lt {c : List Int} {i : Nat} (h : i < c.length) : c.getD i 0 = c[i] := by simp [List.getD_eq_getElem?_getD, h]
theorem outF_get (d : Nat → Nat) (c : List Int) {i : Nat} (h : i < c.length) : (outF d c)[i]? = some (if 0 < c[i] then (d (rankL c i) : Int) else 0) := by
  simp [outF, h]
theorem outF_zero (c : List Int) : outF (fun _ => 0) c = List.replicate c.length 0 := by
  apply List.ext_getElem (by simp [outF])
  intro i h1 h2
  simp [outF]
/-- Is the letter at place i under thing k? -/
def Under (c : List Int) (f : For) (k i : Nat) : Prop := i < c.length ∧ 0 < c.getD i 0 ∧ f.root (rankL c i) = k
/-- Ones more at the places bs. -/
def incF (o : List Int) (bs : List Nat) : List Int := (List.range o.length).map fun i => o.getD i 0 + if i ∈ bs then 1 else 0
theorem incF_len (o : List Int) (bs : List Nat) : (incF o bs).length = o.length := by simp [incF]
theorem incF_nil (o : List Int) : incF o [] = o := by
  apply List.ext_getElem (by simp [incF])
  intro i h1 h2
  simp only [incF, List.getElem_map, List.getElem_range, List.not_mem_nil, if_false, Int.add_zero]
  exact getD_lt h2
theorem incF_get (o : List Int) (bs : List Nat) {i : Nat} (h : i < o.length) : (incF o bs).getD i 0 = o.getD i 0 + if i ∈ bs then 1 else 0 := by
  simp [incF, List.getD_eq_getElem?_getD, h]
theorem incF_step (o : List Int) (bs : List Nat) (hb : bs.Nodup) {k : Nat} (hk : k < bs.length) (hi : bs[k] < o.length) :
    (incF o (bs.take k)).getD (bs[k]) 0 = o.getD (bs[k]) 0 ∧ (incF o (bs.take k)).set (bs[k]) (o.getD (bs[k]) 0 + 1) = incF o (bs.take (k + 1)) := by
  have hn : bs[k] ∉ bs.take k := fun h => by
    obtain ⟨j, hj, e⟩ := List.mem_iff_getElem.1 h
    rw [List.length_take] at hj
    rw [List.getElem_take] at e
    have := (List.getElem_inj hb).1 e
    omega
  refine ⟨by rw [incF_get _ _ hi, if_neg hn, Int.add_zero], ?_⟩
  apply List.ext_getElem (by simp [incF])
  intro i h1 h2
  rw [List.getElem_set]
  have hio : i < o.length := by simpa [incF] using h2
  simp only [incF, List.getElem_map, List.getElem_range]
  have hm : i ∈ bs.take (k + 1) ↔ i ∈ bs.take k ∨ i = bs[k] := by
    rw [List.take_add_one, List.getElem?_eq_getElem hk, List.mem_append]; simp
  by_cases e : bs[k] = i
  · subst e
    rw [if_pos rfl, if_pos (hm.2 (.inr rfl))]
  · rw [if_neg e]
    congr 1
    by_cases h : i ∈ bs.take k
    · rw [if_pos h, if_pos (hm.2 (.inl h))]
    · rw [if_neg h, if_neg (fun x => (hm.1 x).elim h (fun y => e y.symm))]
theorem inc_both {c : List Int} {f : For} {a b : Nat} {bs : List Nat} (hm : ∀ i, i ∈ bs ↔ Under c f a i ∨ Under c f b i) : incF (outF f.d c) bs = outF (f.both a b).d c := by
  apply List.ext_getElem (by simp [incF, outF])
  intro i h1 h2
  have hi : i < c.length := by simpa [outF] using h2
  have e1 := incF_get (outF f.d c) bs (i := i) (by rw [outF_len]; exact hi)
  rw [getD_lt h1] at e1
  rw [e1]
  have e2 : (outF f.d c).getD i 0 = if 0 < c[i] then (f.d (rankL c i) : Int) else 0 := by
    rw [List.getD_eq_getElem?_getD, outF_get _ _ hi]; rfl
  have e3 := outF_get (f.both a b).d c hi
  rw [List.getElem?_eq_getElem h2] at e3
  rw [e2, Option.some.inj e3]
  have hdd : (f.both a b).d (rankL c i) = if f.root (rankL c i) = a ∨ f.root (rankL c i) = b then f.d (rankL c i) + 1 else f.d (rankL c i) := rfl
  rw [hdd]
  have hu : i ∈ bs ↔ 0 < c[i] ∧ (f.root (rankL c i) = a ∨ f.root (rankL c i) = b) := by
    rw [hm]
    unfold Under
    rw [getD_lt hi]
    constructor
    · rintro (⟨_, h1, h2⟩ | ⟨_, h1, h2⟩)
      · exact ⟨h1, .inl h2⟩
      · exact ⟨h1, .inr h2⟩
    · rintro ⟨h1, h2 | h2⟩
      · exact .inl ⟨hi, h1, h2⟩
      · exact .inr ⟨hi, h1, h2⟩
  by_cases h0 : 0 < c[i]
  · rw [if_pos h0, if_pos h0]
    by_cases hr : f.root (rankL c i) = a ∨ f.root (rankL c i) = b
    · rw [if_pos hr, if_pos (hu.2 ⟨h0, hr⟩)]; omega
    · rw [if_neg hr, if_neg (fun x => hr (hu.1 x).2)]; omega
  · rw [if_neg h0, if_neg h0, if_neg (fun x => h0 (hu.1 x).1)]; omega
theorem under_N {c : List Int} {f : For} {a b i : Nat} (ho : f.Ok (posL c).length) : Under c (f.both a b) f.N i ↔ Under c f a i ∨ Under c f b i := by
  unfold Under
  have hrr : (f.both a b).root (rankL c i) = if f.root (rankL c i) = a ∨ f.root (rankL c i) = b then f.N else f.root (rankL c i) := rfl
  rw [hrr]
  constructor
  · rintro ⟨h1, h2, h3⟩
    have hl : f.root (rankL c i) < f.N := ho.less _ (ho.root _ (rankL_lt c h1 (by rw [← getD_lt h1]; exact h2)))
    by_cases h : f.root (rankL c i) = a ∨ f.root (rankL c i) = b
    · rcases h with e | e
      · exact .inl ⟨h1, h2, e⟩
      · exact .inr ⟨h1, h2, e⟩
    · rw [if_neg h] at h3; omega
  · rintro (⟨h1, h2, h3⟩ | ⟨h1, h2, h3⟩)
    · exact ⟨h1, h2, if_pos (.inl h3)⟩
    · exact ⟨h1, h2, if_pos (.inr h3)⟩
theorem under_old2 {c : List Int} {f : For} {a b k i : Nat} (hk : k < f.N) (ha : k ≠ a) (hb : k ≠ b) : Under c (f.both a b) k i ↔ Under c f k i := by
  unfold Under
  have hrr : (f.both a b).root (rankL c i) = if f.root (rankL c i) = a ∨ f.root (rankL c i) = b then f.N else f.root (rankL c i) := rfl
  rw [hrr]
  by_cases h : f.root (rankL c i) = a ∨ f.root (rankL c i) = b
  · rw [if_pos h]
    constructor
    · rintro ⟨_, _, h3⟩; omega
    · rintro ⟨_, _, h3⟩; omega
  · rw [if_neg h]
theorem under_apart {c : List Int} {f : For} {a b i : Nat} (hab : a ≠ b) (h1 : Under c f a i) : ¬ Under c f b i := fun h2 => hab (h1.2.2.symm.trans h2.2.2)
theorem rank_inj {c : List Int} {i j : Nat} (hi : i < c.length) (hj : j < c.length) (hi0 : 0 < c[i]) (hj0 : 0 < c[j]) (h : rankL c i = rankL c j) : i = j := by
  have key : ∀ {i j : Nat} (hi : i < c.length) (hj : j < c.length), 0 < c[i] → i < j → rankL c i < rankL c j := fun {i j} hi hj h0 hij => by
    have h1 := rankL_succ c i hi
    rw [if_pos h0] at h1
    have h2 := rankL_mono c (k := i + 1) (m := j) (by omega) (by omega)
    omega
  rcases Nat.lt_trichotomy i j with e | e | e
  · have := key hi hj hi0 e; omega
  · exact e
  · have := key hj hi hj0 e; omega
theorem nodup_len : ∀ (n : Nat) (us : List Nat), us.Nodup → (∀ i ∈ us, i < n) → us.length ≤ n := by
  intro n
  induction n with
  | zero =>
    intro us _ h
    cases us with
    | nil => exact Nat.le_refl _
    | cons a l => have := h a List.mem_cons_self; omega
  | succ n ih =>
    intro us hn h
    have h1 := ih (us.erase n) (hn.erase n) (fun i hi => by
      rw [hn.mem_erase_iff] at hi
      have := h i hi.2
      omega)
    by_cases hm : n ∈ us
    · rw [List.length_erase_of_mem hm] at h1; omega
    · rw [List.erase_of_not_mem hm] at h1; omega
/-- What the rounds keep. -/
structure RWay (c : List Int) (f : For) (hs : List Nat) : Prop where
  nodup : hs.Nodup
  mem : ∀ m, m ∈ hs ↔ f.here m = true
  most : f.N + hs.length = 2 * (posL c).length
  sum : (hs.map f.wt).sum = allOf (wtL c) (posL c).length
  ok : f.Ok (posL c).length
  way : ∀ g, Huff f g → Huff (For.start (posL c).length (wtL c)) g
  small : ∀ i, f.d i ≤ f.N
theorem allOf_range (v : Nat → Nat) : ∀ L, ((List.range L).map v).sum = allOf v L := by
  intro L
  induction L with
  | zero => rfl
  | succ L ih => rw [List.range_succ, List.map_append, List.sum_append, ih]; simp [allOf]
theorem RWay.start (c : List Int) : RWay c (For.start (posL c).length (wtL c)) (List.range (posL c).length) :=
  ⟨List.nodup_range, fun m => by simp [For.start], by show (posL c).length + _ = _; rw [List.length_range]; omega, allOf_range _ _, start_ok _ _, fun _ h => h, fun _ => Nat.zero_le _⟩
theorem RWay.step {c : List Int} {f : For} {hs : List Nat} {a b : Nat} (h : RWay c f hs) (ha : f.least (fun m => f.here m = true) a) (hb : f.least (fun m => f.here m = true ∧ m ≠ a) b) :
    (∃ hs', RWay c (f.both a b) hs') ∧ f.wt a + f.wt b ≤ allOf (wtL c) (posL c).length ∧ f.N + 2 ≤ 2 * (posL c).length := by
  have hma := (h.mem a).2 ha.1
  have hmb : b ∈ hs.erase a := by rw [h.nodup.mem_erase_iff]; exact ⟨hb.1.2, (h.mem b).2 hb.1.1⟩
  have hnd := h.nodup.erase a
  have p1 := List.perm_cons_erase hma
  have p2 := List.perm_cons_erase hmb
  have l1 := p1.length_eq
  have l2 := p2.length_eq
  simp only [List.length_cons] at l1 l2
  have s1 := (p1.map f.wt).sum_nat
  have s2 := (p2.map f.wt).sum_nat
  simp only [List.map_cons, List.sum_cons] at s1 s2
  have hsum := h.sum
  have hmost := h.most
  have hmem : ∀ m, m ∈ (hs.erase a).erase b ↔ m ≠ b ∧ m ≠ a ∧ f.here m = true := fun m => by
    rw [hnd.mem_erase_iff, h.nodup.mem_erase_iff, h.mem]
  have hlt : ∀ m, m ∈ (hs.erase a).erase b → m < f.N := fun m hm => h.ok.less m ((hmem m).1 hm).2.2
  refine ⟨⟨(hs.erase a).erase b ++ [f.N], ?_, fun m => ?_, ?_, ?_, For.both_ok h.ok, fun g hg => h.way g (.join f g a b ha hb hg), fun i => ?_⟩, by omega, by omega⟩
  · rw [List.nodup_append]
    refine ⟨hnd.erase b, by simp, fun x hx y hy e => ?_⟩
    rw [List.mem_singleton] at hy
    have := hlt x hx
    omega
  · rw [For.both_here, List.mem_append, List.mem_singleton, hmem]
    constructor
    · rintro (⟨h1, h2, h3⟩ | rfl)
      · exact .inr ⟨h2, h1, h3⟩
      · exact .inl rfl
    · rintro (rfl | ⟨h1, h2, h3⟩)
      · exact .inr rfl
      · exact .inl ⟨h2, h1, h3⟩
  · show f.N + 1 + _ = _
    rw [List.length_append, List.length_singleton]; omega
  · rw [List.map_append, List.sum_append]
    have e : ((hs.erase a).erase b).map (f.both a b).wt = ((hs.erase a).erase b).map f.wt := List.map_congr_left fun m hm => For.both_wt m (hlt m hm)
    rw [e]
    simp only [List.map_cons, List.map_nil, List.sum_cons, List.sum_nil, For.both_wtN]
    omega
  · show (if f.root i = a ∨ f.root i = b then f.d i + 1 else f.d i) ≤ f.N + 1
    have := h.small i
    split <;> omega
/-- In the end both sides have the same lens. -/
theorem out_lens {c : List Int} {g : For} (hg : Huff (For.start (posL c).length (wtL c)) g) (h : (posL c).length ≠ 1) : outF g.d c = lensF g.d c 0 := by
  apply List.ext_getElem? 
  intro i
  by_cases hi : i < c.length
  · rw [outF_get _ _ hi, lensF_get _ _ _ _ hi, Nat.zero_add]
    by_cases h0 : 0 < c[i]
    · rw [if_pos h0, if_pos h0]
      have hr := rankL_lt c hi h0
      have := huff_deep hg (by omega) _ hr
      congr 1
      omega
    · rw [if_neg h0, if_neg h0]
  · rw [List.getElem?_eq_none (by rw [outF_len]; omega), List.getElem?_eq_none (by rw [lensF_len]; omega)]
/-- A letter alone. -/
theorem one_lens {c : List Int} {i : Nat} (h : (posL c).length = 1) (hi : i < c.length) (h0 : 0 < c[i]) : DeepR c ((List.replicate c.length 0).set i 1) := by
  refine ⟨_, .last _ fun m m' hm hm' => ?_, ?_⟩
  · have h1 : decide (m < (posL c).length) = true := hm
    have h2 : decide (m' < (posL c).length) = true := hm'
    simp at h1 h2; omega
  · apply List.ext_getElem?
    intro j
    by_cases hj : j < c.length
    · rw [lensF_get _ _ _ _ hj, List.getElem?_set]
      by_cases e : i = j
      · subst e
        rw [if_pos rfl, if_pos (by simpa using hi), if_pos h0]; rfl
      · rw [if_neg e]
        by_cases h1 : 0 < c[j]
        · have r1 := rankL_lt c hi h0
          have r2 := rankL_lt c hj h1
          exact absurd (rank_inj hi hj h0 h1 (by omega)) e
        · rw [if_neg h1]; simp [hj]
    · rw [List.getElem?_eq_none (by simp; omega), List.getElem?_eq_none (by rw [lensF_len]; omega)]
end Go.Proofs.Ytjncmfoommlldaa
