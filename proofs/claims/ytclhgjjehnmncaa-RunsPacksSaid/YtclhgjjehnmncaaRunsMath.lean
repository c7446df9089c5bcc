/- What layer 10 does, as functions of lists: the pieces of bytes, what pieces tell; laws of them. -/
import Derived.Test.YtclhgjjehnmncaaBase
namespace Go.Proofs.Ytclhgjjehnmncaa

/-- How many like c a row begins with. -/
def leadN (c : UInt8) : List UInt8 → Nat
  | [] => 0
  | x :: l => if x = c then leadN c l + 1 else 0
/-- How many bytes alike a row begins with, m at most. -/
def alikeN (m : Nat) : List UInt8 → Nat
  | [] => 0
  | c :: l => min (leadN c l + 1) m
/-- Do three alike begin here? -/
def threeB : List UInt8 → Bool
  | a :: b :: c :: _ => a == b && a == c
  | _ => false
/-- How many bytes are ahead of the next place where three alike begin, m at most. -/
def apartN : Nat → List UInt8 → Nat
  | 0, _ => 0
  | _, [] => 0
  | m + 1, c :: l => if threeB (c :: l) then 0 else apartN m l + 1
def packF : Nat → List UInt8 → List UInt8
  | 0, _ => []
  | _, [] => []
  | f + 1, c :: t =>
    if threeB (c :: t) then UInt8.ofNat (alikeN 130 (c :: t) + 125) :: c :: packF f ((c :: t).drop (alikeN 130 (c :: t)))
    else UInt8.ofNat (apartN 128 (c :: t) - 1) :: ((c :: t).take (apartN 128 (c :: t)) ++ packF f ((c :: t).drop (apartN 128 (c :: t))))
/-- The pieces of bytes. -/
def packL (l : List UInt8) : List UInt8 := packF l.length l

theorem leadN_le (c : UInt8) (l : List UInt8) : leadN c l ≤ l.length := by
  induction l with
  | nil => simp [leadN]
  | cons x l ih => simp only [leadN, List.length_cons]; split <;> omega
theorem leadN_eq {c : UInt8} {l : List UInt8} : ∀ {k : Nat}, k < leadN c l → l[k]? = some c := by
  induction l with
  | nil => intro k h; simp [leadN] at h
  | cons x l ih =>
    intro k h
    simp only [leadN] at h
    split at h
    · rename_i e
      cases k with
      | zero => simp [e]
      | succ k => simpa using ih (k := k) (by omega)
    · omega
theorem leadN_stop {c : UInt8} {l : List UInt8} (h : leadN c l < l.length) : l[leadN c l]? ≠ some c := by
  induction l with
  | nil => simp at h
  | cons x l ih =>
    by_cases e : x = c
    · have hl : leadN c (x :: l) = leadN c l + 1 := by simp [leadN, e]
      rw [hl] at h ⊢
      simpa using ih (by simpa using h)
    · have hl : leadN c (x :: l) = 0 := by simp [leadN, e]
      rw [hl]
      simpa using e
/-- from k alike on: one more, if the next is so -/
theorem leadN_of {c : UInt8} {l : List UInt8} {k : Nat} (h : ∀ j, j < k → l[j]? = some c) : k ≤ leadN c l := by
  rcases Nat.lt_or_ge (leadN c l) k with g | g
  · have h1 := h _ g
    have h2 : leadN c l < l.length := (List.getElem?_eq_some_iff.1 h1).1
    exact absurd h1 (leadN_stop h2)
  · exact g
theorem leadN_is {c : UInt8} {l : List UInt8} {k : Nat} (h : ∀ j, j < k → l[j]? = some c) (hs : l[k]? ≠ some c) : leadN c l = k := by
  have h1 := leadN_of h
  rcases Nat.lt_or_ge k (leadN c l) with g | g
  · exact absurd (leadN_eq g) hs
  · omega
/-- The count, by what the loop sees: n alike, and no more, or as many as may be. -/
theorem alikeN_is {c : UInt8} {t : List UInt8} {m n : Nat} (h1 : 1 ≤ n) (hm : n ≤ m) (hn : n ≤ t.length + 1) (h : ∀ j, j < n → (c :: t)[j]? = some c) (hs : n = m ∨ (c :: t)[n]? ≠ some c) : alikeN m (c :: t) = n := by
  obtain ⟨k, rfl⟩ : ∃ k, n = k + 1 := ⟨n - 1, by omega⟩
  have h' : ∀ j, j < k → t[j]? = some c := fun j hj => by simpa using h (j + 1) (by omega)
  simp only [alikeN]
  rcases hs with rfl | hs
  · have := leadN_of h'
    omega
  · have := leadN_is h' (by simpa using hs)
    omega
theorem alikeN_le (m : Nat) (l : List UInt8) : alikeN m l ≤ l.length := by
  cases l with
  | nil => simp [alikeN]
  | cons c t => have := leadN_le c t; simp only [alikeN, List.length_cons]; omega
theorem alikeN_most (m : Nat) (l : List UInt8) : alikeN m l ≤ m := by
  cases l with
  | nil => simp [alikeN]
  | cons c t => simp only [alikeN]; omega
theorem alikeN_take (m : Nat) (c : UInt8) (t : List UInt8) : (c :: t).take (alikeN m (c :: t)) = List.replicate (alikeN m (c :: t)) c := by
  refine List.ext_getElem? fun k => ?_
  rw [List.getElem?_take, List.getElem?_replicate]
  split
  · rename_i h
    simp only [alikeN] at h
    cases k with
    | zero => simp
    | succ k => simpa using leadN_eq (c := c) (l := t) (k := k) (by omega)
  · rfl
/-- three alike, by the count -/
theorem three_iff (m : Nat) (hm : 3 ≤ m) (l : List UInt8) : (3 ≤ alikeN m l) ↔ threeB l = true := by
  match l with
  | [] => simp [alikeN, threeB]
  | [a] => simp [alikeN, threeB, leadN]; omega
  | [a, b] =>
    simp only [alikeN, threeB, leadN]
    split <;> simp <;> omega
  | a :: b :: c :: t =>
    simp only [alikeN, threeB, leadN, Bool.and_eq_true, beq_iff_eq]
    constructor
    · intro h
      by_cases h1 : b = a
      · by_cases h2 : c = a
        · exact ⟨h1.symm, h2.symm⟩
        · simp [h1, h2] at h
          omega
      · simp [h1] at h
        omega
    · rintro ⟨rfl, rfl⟩
      simp
      omega
theorem three_len {l : List UInt8} (h : threeB l = true) : 3 ≤ l.length := by
  match l, h with
  | _ :: _ :: _ :: _, _ => simp
theorem three_of {l : List UInt8} {a b c : UInt8} (h0 : l[0]? = some a) (h1 : l[1]? = some b) (h2 : l[2]? = some c) : threeB l = (a == b && a == c) := by
  match l, h0, h1, h2 with
  | _ :: _ :: _ :: _, h0, h1, h2 =>
    simp at h0 h1 h2
    subst h0 h1 h2
    rfl
theorem three_short {l : List UInt8} (h : l.length < 3) : threeB l = false := by
  cases e : threeB l with
  | false => rfl
  | true => have := three_len e; omega
theorem apartN_le : ∀ (m : Nat) (l : List UInt8), apartN m l ≤ l.length
  | 0, l => by simp [apartN]
  | m + 1, [] => by simp [apartN]
  | m + 1, c :: t => by
    simp only [apartN, List.length_cons]
    split
    · omega
    · have := apartN_le m t; omega
theorem apartN_most : ∀ (m : Nat) (l : List UInt8), apartN m l ≤ m
  | 0, l => by simp [apartN]
  | m + 1, [] => by simp [apartN]
  | m + 1, c :: t => by
    simp only [apartN]
    split
    · omega
    · have := apartN_most m t; omega
theorem apartN_pos {m : Nat} {l : List UInt8} (h : threeB l = false) (hl : l ≠ []) : apartN (m + 1) l = apartN m (l.drop 1) + 1 := by
  match l, hl with
  | c :: t, _ => simp [apartN, h]
/-- where it stops, three begin, or the end is, or as many as may be -/
theorem apartN_stop : ∀ (m : Nat) (l : List UInt8), apartN m l = m ∨ apartN m l = l.length ∨ threeB (l.drop (apartN m l)) = true
  | 0, l => by simp [apartN]
  | m + 1, [] => by simp [apartN]
  | m + 1, c :: t => by
    simp only [apartN]
    split
    · rename_i h; right; right; simpa using h
    · rcases apartN_stop m t with h | h | h
      · left; omega
      · right; left; simp; omega
      · right; right; simpa using h
theorem packF_enough : ∀ (f g : Nat) (l : List UInt8), l.length ≤ f → l.length ≤ g → packF f l = packF g l
  | 0, 0, _, _, _ => rfl
  | 0, g + 1, [], _, _ => rfl
  | 0, g + 1, c :: t, h, _ => by simp at h
  | f + 1, 0, [], _, _ => rfl
  | f + 1, 0, c :: t, _, h => by simp at h
  | f + 1, g + 1, [], _, _ => rfl
  | f + 1, g + 1, c :: t, h, h' => by
    simp only [List.length_cons] at h h'
    simp only [packF]
    split
    · rename_i h3
      have := (three_iff 130 (by omega) (c :: t)).2 h3
      rw [packF_enough f g _ (by rw [List.length_drop, List.length_cons]; omega) (by rw [List.length_drop, List.length_cons]; omega)]
    · rename_i h3
      have : apartN 128 (c :: t) = apartN 127 t + 1 := by simp only [apartN]; rw [if_neg h3]
      rw [packF_enough f g _ (by rw [List.length_drop, List.length_cons]; omega) (by rw [List.length_drop, List.length_cons]; omega)]
theorem packL_nil : packL [] = [] := rfl
theorem packL_three {l : List UInt8} {c : UInt8} (h : threeB l = true) (hc : l[0]? = some c) : packL l = UInt8.ofNat (alikeN 130 l + 125) :: c :: packL (l.drop (alikeN 130 l)) := by
  match l, hc with
  | c :: t, hc =>
    simp at hc
    subst hc
    have h3 := (three_iff 130 (by omega) (c :: t)).2 h
    show packF (t.length + 1) (c :: t) = _
    simp only [packF]
    rw [if_pos h]
    unfold packL
    rw [packF_enough t.length _ _ (by rw [List.length_drop, List.length_cons]; omega) (Nat.le_refl _)]
theorem packL_apart {l : List UInt8} (h : threeB l = false) (hl : l ≠ []) : packL l = UInt8.ofNat (apartN 128 l - 1) :: (l.take (apartN 128 l) ++ packL (l.drop (apartN 128 l))) := by
  match l, hl with
  | c :: t, _ =>
    have h3 : apartN 128 (c :: t) = apartN 127 t + 1 := by simp only [apartN]; rw [if_neg (by simp [h])]
    show packF (t.length + 1) (c :: t) = _
    simp only [packF]
    rw [if_neg (by simp [h])]
    unfold packL
    rw [packF_enough t.length _ _ (by rw [List.length_drop, List.length_cons]; omega) (Nat.le_refl _)]
/-- how many bytes there are at most -/
theorem packL_le (l : List UInt8) : (packL l).length ≤ l.length + (l.length + 127) / 128 := by
  suffices h : ∀ n, ∀ l : List UInt8, l.length = n → (packL l).length ≤ l.length + (l.length + 127) / 128 from h _ l rfl
  intro n
  induction n using Nat.strongRecOn with
  | _ n ih =>
    intro l hn
    by_cases hl : l = []
    · subst hl; simp [packL_nil]
    · have hpos : 0 < l.length := List.length_pos_iff.2 hl
      have three : ∀ l : List UInt8, l.length ≤ n → threeB l = true → (packL l).length + 1 ≤ l.length + (l.length + 127) / 128 ∧ ∃ k, 3 ≤ k ∧ k ≤ l.length ∧ (packL l).length ≤ 2 + (l.length - k) + ((l.length - k) + 127) / 128 := by
        intro l hln h
        have h3 := (three_iff 130 (by omega) l).2 h
        have h4 := alikeN_le 130 l
        have := three_len h
        rw [packL_three h (c := l[0]) (by simp)]
        have hi := ih (l.length - alikeN 130 l) (by omega) (l.drop (alikeN 130 l)) (by simp)
        rw [List.length_drop] at hi
        simp only [List.length_cons]
        exact ⟨by omega, alikeN 130 l, h3, h4, by omega⟩
      cases h : threeB l with
      | true => have := (three l (by omega) h).1; omega
      | false =>
        rw [packL_apart h hl]
        have hp : apartN 128 l = apartN 127 (l.drop 1) + 1 := apartN_pos h hl
        have h4 := apartN_le 128 l
        simp only [List.length_cons, List.length_append, List.length_take]
        rcases apartN_stop 128 l with h5 | h5 | h5
        · have hi := ih (l.length - 128) (by omega) (l.drop 128) (by simp)
          rw [List.length_drop] at hi
          rw [h5]
          omega
        · have : l.drop (apartN 128 l) = [] := by rw [h5]; simp
          rw [this, packL_nil]
          have := apartN_most 128 l
          simp
          omega
        · obtain ⟨_, k, h6, h7, h8⟩ := three (l.drop (apartN 128 l)) (by rw [List.length_drop]; omega) h5
          rw [List.length_drop] at h7 h8
          have := apartN_most 128 l
          omega

def unF : Nat → List UInt8 → Option (List UInt8)
  | _, [] => some []
  | 0, _ :: _ => none
  | f + 1, c :: t =>
    if c.toNat < 128 then
      if c.toNat + 1 ≤ t.length then (unF f (t.drop (c.toNat + 1))).map (t.take (c.toNat + 1) ++ ·) else none
    else match t with
      | [] => none
      | x :: t => (unF f t).map (List.replicate (c.toNat - 125) x ++ ·)
/-- The bytes that pieces tell, if they are whole. -/
def unpackL (l : List UInt8) : Option (List UInt8) := unF l.length l
theorem unF_enough : ∀ (f g : Nat) (l : List UInt8), l.length ≤ f → l.length ≤ g → unF f l = unF g l
  | f, g, [], _, _ => by cases f <;> cases g <;> rfl
  | 0, g, c :: t, h, _ => by simp at h
  | f + 1, 0, c :: t, _, h => by simp at h
  | f + 1, g + 1, c :: t, h, h' => by
    simp only [List.length_cons] at h h'
    simp only [unF]
    split
    · split
      · rw [unF_enough f g _ (by rw [List.length_drop]; omega) (by rw [List.length_drop]; omega)]
      · rfl
    · cases t with
      | nil => rfl
      | cons x t =>
        simp only [List.length_cons] at h h'
        simp only
        rw [unF_enough f g _ (by omega) (by omega)]
theorem unpackL_nil : unpackL [] = some [] := rfl
theorem unpackL_apart (c : UInt8) (t : List UInt8) (hc : c.toNat < 128) (h : c.toNat + 1 ≤ t.length) : unpackL (c :: t) = (unpackL (t.drop (c.toNat + 1))).map (t.take (c.toNat + 1) ++ ·) := by
  show unF (t.length + 1) (c :: t) = _
  simp only [unF]
  rw [if_pos hc, if_pos h, unF_enough t.length _ _ (by rw [List.length_drop]; omega) (Nat.le_refl _)]
  rfl
theorem unpackL_lack (c : UInt8) (t : List UInt8) (hc : c.toNat < 128) (h : t.length < c.toNat + 1) : unpackL (c :: t) = none := by
  show unF (t.length + 1) (c :: t) = _
  simp only [unF]
  rw [if_pos hc, if_neg (by omega)]
theorem unpackL_lack2 (c : UInt8) (hc : ¬ c.toNat < 128) : unpackL [c] = none := by
  show unF 1 [c] = _
  simp only [unF]
  rw [if_neg hc]
theorem unpackL_alike (c x : UInt8) (t : List UInt8) (hc : ¬ c.toNat < 128) : unpackL (c :: x :: t) = (unpackL t).map (List.replicate (c.toNat - 125) x ++ ·) := by
  show unF (t.length + 1 + 1) (c :: x :: t) = _
  simp only [unF]
  rw [if_neg hc]
  unfold unpackL
  rw [unF_enough (t.length + 1) _ _ (by omega) (Nat.le_refl _)]
/-- What is packed comes back. -/
theorem unpack_pack (l : List UInt8) : unpackL (packL l) = some l := by
  suffices h : ∀ n, ∀ l : List UInt8, l.length = n → unpackL (packL l) = some l from h _ l rfl
  intro n
  induction n using Nat.strongRecOn with
  | _ n ih =>
    intro l hn
    by_cases hl : l = []
    · subst hl; rfl
    · cases h : threeB l with
      | true =>
        match l, hl with
        | c :: t, _ =>
          have h3 := (three_iff 130 (by omega) (c :: t)).2 h
          have h4 := alikeN_most 130 (c :: t)
          have e : (UInt8.ofNat (alikeN 130 (c :: t) + 125)).toNat = alikeN 130 (c :: t) + 125 := by rw [UInt8.toNat_ofNat']; omega
          rw [packL_three h (c := c) rfl, unpackL_alike _ _ _ (by omega), ih _ (by rw [List.length_drop]; simp only [List.length_cons] at hn ⊢; omega) _ rfl, e]
          simp only [Option.map_some]
          rw [Nat.add_sub_cancel, ← alikeN_take, List.take_append_drop]
      | false =>
        have hp : apartN 128 l = apartN 127 (l.drop 1) + 1 := apartN_pos h hl
        have h4 := apartN_most 128 l
        have h5 := apartN_le 128 l
        have e : (UInt8.ofNat (apartN 128 l - 1)).toNat = apartN 128 l - 1 := by rw [UInt8.toNat_ofNat']; omega
        have e1 : (l.take (apartN 128 l)).length = apartN 128 l := by simp; omega
        rw [packL_apart h hl, unpackL_apart _ _ (by omega) (by rw [e, List.length_append, e1]; omega), e, Nat.sub_add_cancel (by omega)]
        rw [List.drop_append_of_le_length (by omega), List.take_append_of_le_length (by omega), List.drop_of_length_le (l := l.take _) (by omega), List.nil_append, ih _ (by rw [List.length_drop]; omega) _ rfl]
        simp only [Option.map_some]
        rw [List.take_of_length_le (by omega), List.take_append_drop]
theorem lead_rep (c : UInt8) (m : Nat) : leadN c (List.replicate m c) = m := by
  induction m with
  | zero => rfl
  | succ m ih => simp [List.replicate_succ, leadN, ih]
theorem three_rep (c : UInt8) (m : Nat) : threeB (List.replicate m c) = decide (3 ≤ m) := by
  match m with
  | 0 => rfl
  | 1 => rfl
  | 2 => rfl
  | m + 3 => simp [List.replicate_succ, threeB]
/-- how many bytes those become that are all the same -/
def stillN (m : Nat) : Nat := m / 130 * 2 + (if 3 ≤ m % 130 then 2 else if 0 < m % 130 then 1 + m % 130 else 0)
theorem pack_rep (c : UInt8) (m : Nat) : (packL (List.replicate m c)).length = stillN m := by
  induction m using Nat.strongRecOn with
  | _ m ih =>
    by_cases h : 3 ≤ m
    · have ha : alikeN 130 (List.replicate m c) = min m 130 := by
        obtain ⟨k, rfl⟩ : ∃ k, m = k + 1 := ⟨m - 1, by omega⟩
        rw [List.replicate_succ]
        simp only [alikeN, lead_rep]
      rw [packL_three (c := c) (by rw [three_rep]; simpa using h) (by rw [List.getElem?_replicate, if_pos (by omega)]), ha]
      simp only [List.length_cons, List.drop_replicate]
      rw [ih (m - min m 130) (by omega)]
      unfold stillN
      rcases Nat.lt_or_ge m 130 with g | g
      · rw [Nat.min_eq_left (by omega), Nat.sub_self, Nat.div_eq_of_lt g, Nat.mod_eq_of_lt g, if_pos h]
        simp
      · rw [Nat.min_eq_right (by omega), show m / 130 = (m - 130) / 130 + 1 by omega, show m % 130 = (m - 130) % 130 by omega]
        omega
    · match m, h with
      | 0, _ => rfl
      | 1, _ => rfl
      | 2, _ => rfl
      | m + 3, h => omega
/-- What Unpack answers: the bytes, and the error's number. -/
def unpackR (l : List UInt8) (n : Int) : List UInt8 × Nat :=
  if n < 0 ∨ 268435456 < n then ([], 2)
  else match unpackL l with
    | none => ([], 16)
    | some o => if (o.length : Int) = n then (o, 0) else ([], 16)
/-- How many bytes so many become at most. -/
def mostI (n : Int) : Int := if n < 1 ∨ 1099511627776 < n then 0 else n + (n + 127) / 128
end Go.Proofs.Ytclhgjjehnmncaa
