/- What layer 10 does, as functions of lists: the pieces of bytes, what pieces tell; laws of them. · Contracts of layer 10's counting functions. · Contracts of layer 10's small functions: Most, first, begins. · Contract of layer 10's told: a piece's bytes behind a row of the call's own. -/
import Derived.Test.YtcenbaajojdjlaaGreatDoorBase
import Derived.Test.YtcenbaajojdjlaaGreatDoorProg
import Derived.Deep.DeepMust
import Derived.BigQuiet
import Derived.Test.YtcenbaajojdjlaaGreatDoorWordFn
namespace Go.Proofs.YtcenbaajojdjlaaGreatDoor

/-- How many like c a row begins with. -/
def leadN (c : UInt8) : List UInt8 → Nat
  | [] => 0
  | x :: l => if x = c then leadN c l + 1 else 0
/-- How many bytes alike a row begins with, m at most. -/
def alikeN (m : Nat) : List UInt8 → Nat
  | [] => 0
  | c :: l => min (leadN c l + 1) m
/-- Do three alike begin here? -/
def threeB : List UInt8 → Bool
  | a :: b :: c :: _ => a == b && a == c
  | _ => false
/-- How many bytes are ahead of the next place where three alike begin, m at most. -/
def apartN : Nat → List UInt8 → Nat
  | 0, _ => 0
  | _, [] => 0
  | m + 1, c :: l => if threeB (c :: l) then 0 else apartN m l + 1
def packF : Nat → List UInt8 → List UInt8
  | 0, _ => []
  | _, [] => []
  | f + 1, c :: t =>
    if threeB (c :: t) then UInt8.ofNat (alikeN 130 (c :: t) + 125) :: c :: packF f ((c :: t).drop (alikeN 130 (c :: t)))
    else UInt8.ofNat (apartN 128 (c :: t) - 1) :: ((c :: t).take (apartN 128 (c :: t)) ++ packF f ((c :: t).drop (apartN 128 (c :: t))))
/-- The pieces of bytes. -/
def packL (l : List UInt8) : List UInt8 := packF l.length l

theorem leadN_le (c : UInt8) (l : List UInt8) : leadN c l ≤ l.length := by
  induction l with
  | nil => simp [leadN]
  | cons x l ih => simp only [leadN, List.length_cons]; split <;> omega
theorem leadN_eq {c : UInt8} {l : List UInt8} : ∀ {k : Nat}, k < leadN c l → l[k]? = some c := by
  induction l with
  | nil => intro k h; simp [leadN] at h
  | cons x l ih =>
    intro k h
    simp only [leadN] at h
    split at h
    · rename_i e
      cases k with
      | zero => simp [e]
      | succ k => simpa using ih (k := k) (by omega)
    · omega
theorem leadN_stop {c : UInt8} {l : List UInt8} (h : leadN c l < l.length) : l[leadN c l]? ≠ some c := by
  induction l with
  | nil => simp at h
  | cons x l ih =>
    by_cases e : x = c
    · have hl : leadN c (x :: l) = leadN c l + 1 := by simp [leadN, e]
      rw [hl] at h ⊢
      simpa using ih (by simpa using h)
    · have hl : leadN c (x :: l) = 0 := by simp [leadN, e]
      rw [hl]
      simpa using e
/-- from k alike on: one more, if the next is so -/
theorem leadN_of {c : UInt8} {l : List UInt8} {k : Nat} (h : ∀ j, j < k → l[j]? = some c) : k ≤ leadN c l := by
  rcases Nat.lt_or_ge (leadN c l) k with g | g
  · have h1 := h _ g
    have h2 : leadN c l < l.length := (List.getElem?_eq_some_iff.1 h1).1
    exact absurd h1 (leadN_stop h2)
  · exact g
theorem leadN_is {c : UInt8} {l : List UInt8} {k : Nat} (h : ∀ j, j < k → l[j]? = some c) (hs : l[k]? ≠ some c) : leadN c l = k := by
  have h1 := leadN_of h
  rcases Nat.lt_or_ge k (leadN c l) with g | g
  · exact absurd (leadN_eq g) hs
  · omega
/-- The count, by what the loop sees: n alike, and no more, or as many as may be. -/
theorem alikeN_is {c : UInt8} {t : List UInt8} {m n : Nat} (h1 : 1 ≤ n) (hm : n ≤ m) (hn : n ≤ t.length + 1) (h : ∀ j, j < n → (c :: t)[j]? = some c) (hs : n = m ∨ (c :: t)[n]? ≠ some c) : alikeN m (c :: t) = n := by
  obtain ⟨k, rfl⟩ : ∃ k, n = k + 1 := ⟨n - 1, by omega⟩
  have h' : ∀ j, j < k → t[j]? = some c := fun j hj => by simpa using h (j + 1) (by omega)
  simp only [alikeN]
  rcases hs with rfl | hs
  · have := leadN_of h'
    omega
  · have := leadN_is h' (by simpa using hs)
    omega
theorem alikeN_le (m : Nat) (l : List UInt8) : alikeN m l ≤ l.length := by
  cases l with
  | nil => simp [alikeN]
  | cons c t => have := leadN_le c t; simp only [alikeN, List.length_cons]; omega
theorem alikeN_most (m : Nat) (l : List UInt8) : alikeN m l ≤ m := by
  cases l with
  | nil => simp [alikeN]
  | cons c t => simp only [alikeN]; omega
theorem alikeN_take (m : Nat) (c : UInt8) (t : List UInt8) : (c :: t).take (alikeN m (c :: t)) = List.replicate (alikeN m (c :: t)) c := by
  refine List.ext_getElem? fun k => ?_
  rw [List.getElem?_take, List.getElem?_replicate]
  split
  · rename_i h
    simp only [alikeN] at h
    cases k with
    | zero => simp
    | succ k => simpa using leadN_eq (c := c) (l := t) (k := k) (by omega)
  · rfl
/-- three alike, by the count -/
theorem three_iff (m : Nat) (hm : 3 ≤ m) (l : List UInt8) : (3 ≤ alikeN m l) ↔ threeB l = true := by
  match l with
  | [] => simp [alikeN, threeB]
  | [a] => simp [alikeN, threeB, leadN]; omega
  | [a, b] =>
    simp only [alikeN, threeB, leadN]
    split <;> simp <;> omega
  | a :: b :: c :: t =>
    simp only [alikeN, threeB, leadN, Bool.and_eq_true, beq_iff_eq]
    constructor
    · intro h
      by_cases h1 : b = a
      · by_cases h2 : c = a
        · exact ⟨h1.symm, h2.symm⟩
        · simp [h1, h2] at h
          omega
      · simp [h1] at h
        omega
    · rintro ⟨rfl, rfl⟩
      simp
      omega
theorem three_len {l : List UInt8} (h : threeB l = true) : 3 ≤ l.length := by
  match l, h with
  | _ :: _ :: _ :: _, _ => simp
theorem three_of {l : List UInt8} {a b c : UInt8} (h0 : l[0]? = some a) (h1 : l[1]? = some b) (h2 : l[2]? = some c) : threeB l = (a == b && a == c) := by
  match l, h0, h1, h2 with
  | _ :: _ :: _ :: _, h0, h1, h2 =>
    simp at h0 h1 h2
    subst h0 h1 h2
    rfl
theorem three_short {l : List UInt8} (h : l.length < 3) : threeB l = false := by
  cases e : threeB l with
  | false => rfl
  | true => have := three_len e; omega
theorem apartN_le : ∀ (m : Nat) (l : List UInt8), apartN m l ≤ l.length
  | 0, l => by simp [apartN]
  | m + 1, [] => by simp [apartN]
  | m + 1, c :: t => by
    simp only [apartN, List.length_cons]
    split
    · omega
    · have := apartN_le m t; omega
theorem apartN_most : ∀ (m : Nat) (l : List UInt8), apartN m l ≤ m
  | 0, l => by simp [apartN]
  | m + 1, [] => by simp [apartN]
  | m + 1, c :: t => by
    simp only [apartN]
    split
    · omega
    · have := apartN_most m t; omega
theorem apartN_pos {m : Nat} {l : List UInt8} (h : threeB l = false) (hl : l ≠ []) : apartN (m + 1) l = apartN m (l.drop 1) + 1 := by
  match l, hl with
  | c :: t, _ => simp [apartN, h]
/-- where it stops, three begin, or the end is, or as many as may be -/
theorem apartN_stop : ∀ (m : Nat) (l : List UInt8), apartN m l = m ∨ apartN m l = l.length ∨ threeB (l.drop (apartN m l)) = true
  | 0, l => by simp [apartN]
  | m + 1, [] => by simp [apartN]
  | m + 1, c :: t => by
    simp only [apartN]
    split
    · rename_i h; right; right; simpa using h
    · rcases apartN_stop m t with h | h | h
      · left; omega
      · right; left; simp; omega
      · right; right; simpa using h
theorem packF_enough : ∀ (f g : Nat) (l : List UInt8), l.length ≤ f → l.length ≤ g → packF f l = packF g l
  | 0, 0, _, _, _ => rfl
  | 0, g + 1, [], _, _ => rfl
  | 0, g + 1, c :: t, h, _ => by simp at h
  | f + 1, 0, [], _, _ => rfl
  | f + 1, 0, c :: t, _, h => by simp at h
  | f + 1, g + 1, [], _, _ => rfl
  | f + 1, g + 1, c :: t, h, h' => by
    simp only [List.length_cons] at h h'
    simp only [packF]
    split
    · rename_i h3
      have := (three_iff 130 (by omega) (c :: t)).2 h3
      rw [packF_enough f g _ (by rw [List.length_drop, List.length_cons]; omega) (by rw [List.length_drop, List.length_cons]; omega)]
    · rename_i h3
      have : apartN 128 (c :: t) = apartN 127 t + 1 := by simp only [apartN]; rw [if_neg h3]
      rw [packF_enough f g _ (by rw [List.length_drop, List.length_cons]; omega) (by rw [List.length_drop, List.length_cons]; omega)]
theorem packL_nil : packL [] = [] := rfl
theorem packL_three {l : List UInt8} {c : UInt8} (h : threeB l = true) (hc : l[0]? = some c) : packL l = UInt8.ofNat (alikeN 130 l + 125) :: c :: packL (l.drop (alikeN 130 l)) := by
  match l, hc with
  | c :: t, hc =>
    simp at hc
    subst hc
    have h3 := (three_iff 130 (by omega) (c :: t)).2 h
    show packF (t.length + 1) (c :: t) = _
    simp only [packF]
    rw [if_pos h]
    unfold packL
    rw [packF_enough t.length _ _ (by rw [List.length_drop, List.length_cons]; omega) (Nat.le_refl _)]
theorem packL_apart {l : List UInt8} (h : threeB l = false) (hl : l ≠ []) : packL l = UInt8.ofNat (apartN 128 l - 1) :: (l.take (apartN 128 l) ++ packL (l.drop (apartN 128 l))) := by
  match l, hl with
  | c :: t, _ =>
    have h3 : apartN 128 (c :: t) = apartN 127 t + 1 := by simp only [apartN]; rw [if_neg (by simp [h])]
    show packF (t.length + 1) (c :: t) = _
    simp only [packF]
    rw [if_neg (by simp [h])]
    unfold packL
    rw [packF_enough t.length _ _ (by rw [List.length_drop, List.length_cons]; omega) (Nat.le_refl _)]
/-- how many bytes there are at most -/
theorem packL_le (l : List UInt8) : (packL l).length ≤ l.length + (l.length + 127) / 128 := by
  suffices h : ∀ n, ∀ l : List UInt8, l.length = n → (packL l).length ≤ l.length + (l.length + 127) / 128 from h _ l rfl
  intro n
  induction n using Nat.strongRecOn with
  | _ n ih =>
    intro l hn
    by_cases hl : l = []
    · subst hl; simp [packL_nil]
    · have hpos : 0 < l.length := List.length_pos_iff.2 hl
      have three : ∀ l : List UInt8, l.length ≤ n → threeB l = true → (packL l).length + 1 ≤ l.length + (l.length + 127) / 128 ∧ ∃ k, 3 ≤ k ∧ k ≤ l.length ∧ (packL l).length ≤ 2 + (l.length - k) + ((l.length - k) + 127) / 128 := by
        intro l hln h
        have h3 := (three_iff 130 (by omega) l).2 h
        have h4 := alikeN_le 130 l
        have := three_len h
        rw [packL_three h (c := l[0]) (by simp)]
        have hi := ih (l.length - alikeN 130 l) (by omega) (l.drop (alikeN 130 l)) (by simp)
        rw [List.length_drop] at hi
        simp only [List.length_cons]
        exact ⟨by omega, alikeN 130 l, h3, h4, by omega⟩
      cases h : threeB l with
      | true => have := (three l (by omega) h).1; omega
      | false =>
        rw [packL_apart h hl]
        have hp : apartN 128 l = apartN 127 (l.drop 1) + 1 := apartN_pos h hl
        have h4 := apartN_le 128 l
        simp only [List.length_cons, List.length_append, List.length_take]
        rcases apartN_stop 128 l with h5 | h5 | h5
        · have hi := ih (l.length - 128) (by omega) (l.drop 128) (by simp)
          rw [List.length_drop] at hi
          rw [h5]
          omega
        · have : l.drop (apartN 128 l) = [] := by rw [h5]; simp
          rw [this, packL_nil]
          have := apartN_most 128 l
          simp
          omega
        · obtain ⟨_, k, h6, h7, h8⟩ := three (l.drop (apartN 128 l)) (by rw [List.length_drop]; omega) h5
          rw [List.length_drop] at h7 h8
          have := apartN_most 128 l
          omega

def unF : Nat → List UInt8 → Option (List UInt8)
  | _, [] => some []
  | 0, _ :: _ => none
  | f + 1, c :: t =>
    if c.toNat < 128 then
      if c.toNat + 1 ≤ t.length then (unF f (t.drop (c.toNat + 1))).map (t.take (c.toNat + 1) ++ ·) else none
    else match t with
      | [] => none
      | x :: t => (unF f t).map (List.replicate (c.toNat - 125) x ++ ·)
/-- The bytes that pieces tell, if they are whole. -/
def unpackL (l : List UInt8) : Option (List UInt8) := unF l.length l
theorem unF_enough : ∀ (f g : Nat) (l : List UInt8), l.length ≤ f → l.length ≤ g → unF f l = unF g l
  | f, g, [], _, _ => by cases f <;> cases g <;> rfl
  | 0, g, c :: t, h, _ => by simp at h
  | f + 1, 0, c :: t, _, h => by simp at h
  | f + 1, g + 1, c :: t, h, h' => by
    simp only [List.length_cons] at h h'
    simp only [unF]
    split
    · split
      · rw [unF_enough f g _ (by rw [List.length_drop]; omega) (by rw [List.length_drop]; omega)]
      · rfl
    · cases t with
      | nil => rfl
      | cons x t =>
        simp only [List.length_cons] at h h'
        simp only
        rw [unF_enough f g _ (by omega) (by omega)]
theorem unpackL_nil : unpackL [] = some [] := rfl
theorem unpackL_apart (c : UInt8) (t : List UInt8) (hc : c.toNat < 128) (h : c.toNat + 1 ≤ t.length) : unpackL (c :: t) = (unpackL (t.drop (c.toNat + 1))).map (t.take (c.toNat + 1) ++ ·) := by
  show unF (t.length + 1) (c :: t) = _
  simp only [unF]
  rw [if_pos hc, if_pos h, unF_enough t.length _ _ (by rw [List.length_drop]; omega) (Nat.le_refl _)]
  rfl
theorem unpackL_lack (c : UInt8) (t : List UInt8) (hc : c.toNat < 128) (h : t.length < c.toNat + 1) : unpackL (c :: t) = none := by
  show unF (t.length + 1) (c :: t) = _
  simp only [unF]
  rw [if_pos hc, if_neg (by omega)]
theorem unpackL_lack2 (c : UInt8) (hc : ¬ c.toNat < 128) : unpackL [c] = none := by
  show unF 1 [c] = _
  simp only [unF]
  rw [if_neg hc]
theorem unpackL_alike (c x : UInt8) (t : List UInt8) (hc : ¬ c.toNat < 128) : unpackL (c :: x :: t) = (unpackL t).map (List.replicate (c.toNat - 125) x ++ ·) := by
  show unF (t.length + 1 + 1) (c :: x :: t) = _
  simp only [unF]
  rw [if_neg hc]
  unfold unpackL
  rw [unF_enough (t.length + 1) _ _ (by omega) (Nat.le_refl _)]
/-- What is packed comes back. -/
theorem unpack_pack (l : List UInt8) : unpackL (packL l) = some l := by
  suffices h : ∀ n, ∀ l : List UInt8, l.length = n → unpackL (packL l) = some l from h _ l rfl
  intro n
  induction n using Nat.strongRecOn with
  | _ n ih =>
    intro l hn
    by_cases hl : l = []
    · subst hl; rfl
    · cases h : threeB l with
      | true =>
        match l, hl with
        | c :: t, _ =>
          have h3 := (three_iff 130 (by omega) (c :: t)).2 h
          have h4 := alikeN_most 130 (c :: t)
          have e : (UInt8.ofNat (alikeN 130 (c :: t) + 125)).toNat = alikeN 130 (c :: t) + 125 := by rw [UInt8.toNat_ofNat']; omega
          rw [packL_three h (c := c) rfl, unpackL_alike _ _ _ (by omega), ih _ (by rw [List.length_drop]; simp only [List.length_cons] at hn ⊢; omega) _ rfl, e]
          simp only [Option.map_some]
          rw [Nat.add_sub_cancel, ← alikeN_take, List.take_append_drop]
      | false =>
        have hp : apartN 128 l = apartN 127 (l.drop 1) + 1 := apartN_pos h hl
        have h4 := apartN_most 128 l
        have h5 := apartN_le 128 l
        have e : (UInt8.ofNat (apartN 128 l - 1)).toNat = apartN 128 l - 1 := by rw [UInt8.toNat_ofNat']; omega
        have e1 : (l.take (apartN 128 l)).length = apartN 128 l := by simp; omega
        rw [packL_apart h hl, unpackL_apart _ _ (by omega) (by rw [e, List.length_append, e1]; omega), e, Nat.sub_add_cancel (by omega)]
        rw [List.drop_append_of_le_length (by omega), List.take_append_of_le_length (by omega), List.drop_of_length_le (l := l.take _) (by omega), List.nil_append, ih _ (by rw [List.length_drop]; omega) _ rfl]
        simp only [Option.map_some]
        rw [List.take_of_length_le (by omega), List.take_append_drop]
theorem lead_rep (c : UInt8) (m : Nat) : leadN c (List.replicate m c) = m := by
  induction m with
  | zero => rfl
  | succ m ih => simp [List.replicate_succ, leadN, ih]
theorem three_rep (c : UInt8) (m : Nat) : threeB (List.replicate m c) = decide (3 ≤ m) := by
  match m with
  | 0 => rfl
  | 1 => rfl
  | 2 => rfl
  | m + 3 => simp [List.replicate_succ, threeB]
/-- how many bytes those become that are all the same -/
def stillN (m : Nat) : Nat := m / 130 * 2 + (if 3 ≤ m % 130 then 2 else if 0 < m % 130 then 1 + m % 130 else 0)
theorem pack_rep (c : UInt8) (m : Nat) : (packL (List.replicate m c)).length = stillN m := by
  induction m using Nat.strongRecOn with
  | _ m ih =>
    by_cases h : 3 ≤ m
    · have ha : alikeN 130 (List.replicate m c) = min m 130 := by
        obtain ⟨k, rfl⟩ : ∃ k, m = k + 1 := ⟨m - 1, by omega⟩
        rw [List.replicate_succ]
        simp only [alikeN, lead_rep]
      rw [packL_three (c := c) (by rw [three_rep]; simpa using h) (by rw [List.getElem?_replicate, if_pos (by omega)]), ha]
      simp only [List.length_cons, List.drop_replicate]
      rw [ih (m - min m 130) (by omega)]
      unfold stillN
      rcases Nat.lt_or_ge m 130 with g | g
      · rw [Nat.min_eq_left (by omega), Nat.sub_self, Nat.div_eq_of_lt g, Nat.mod_eq_of_lt g, if_pos h]
        simp
      · rw [Nat.min_eq_right (by omega), show m / 130 = (m - 130) / 130 + 1 by omega, show m % 130 = (m - 130) % 130 by omega]
        omega
    · match m, h with
      | 0, _ => rfl
      | 1, _ => rfl
      | 2, _ => rfl
      | m + 3, h => omega
/-- What Unpack answers: the bytes, and the error's number. -/
def unpackR (l : List UInt8) (n : Int) : List UInt8 × Nat :=
  if n < 0 ∨ 268435456 < n then ([], 2)
  else match unpackL l with
    | none => ([], 16)
    | some o => if (o.length : Int) = n then (o, 0) else ([], 16)
/-- How many bytes so many become at most. -/
def mostI (n : Int) : Int := if n < 1 ∨ 1099511627776 < n then 0 else n + (n + 127) / 128
end Go.Proofs.YtcenbaajojdjlaaGreatDoor
namespace Go.Proofs.YtcenbaajojdjlaaGreatDoor
open Go.RowKit

theorem alike_next {l : List UInt8} {c : UInt8} {k : Nat} (h : ∀ j, j < k → l[j]? = some c) (hk : l[k]? = some c) : ∀ j, j < k + 1 → l[j]? = some c := by
  intro j hj
  rcases Nat.lt_or_ge j k with g | g
  · exact h j g
  · obtain rfl : j = k := by omega
    exact hk
/-- What holds at the head of a round of alike. -/
def AlikeRel (w : World) (l : List UInt8) (c : UInt8) (m : Nat) (i : Value) (wr : World) : Prop :=
  ∃ k : Nat, i = .int .i64 k ∧ 1 ≤ k ∧ k ≤ m ∧ k ≤ l.length ∧ Hid (∀ j, j < k → l[j]? = some c) ∧ Below w.heap.size w wr

set_option maxHeartbeats 1000000 in
set_option maxRecDepth 100000 in
theorem alike_any (A : Option Addr) (n c : Nat) (l : List UInt8) (w : World) (hr : Rd w w.heap.size A (bvs l)) (hn : l.length = n) (hn0 : 0 < n) (hn1 : n ≤ 1000000000000) (m : Nat) (hm : 1 ≤ m) :
    Calls Tryz.prog 96 #[.slice A n c, .int .i64 (m : Int)] w fun e w' => e = .returned (.int .i64 (alikeN m l : Nat)) ∧ Below w.heap.size w w' := by
  subst hn
  obtain ⟨b, off, rfl, hb, hcell⟩ := hr.at_ (by rw [bvs_length]; exact hn0)
  obtain ⟨c0, hc0⟩ : ∃ c0, l[0]? = some c0 := ⟨l[0], by simp⟩
  have hcl : ∀ k x, l[k]? = some x → w.cell? ⟨b, off + k, none⟩ = some (.int .u8 (x.toNat : Int)) := fun k x hx => hcell k _ (by simp [bvs, hx])
  have HC := Lib.hid hcl
  have H0 := Lib.hid hc0
  clear hcell hr hcl
  have hres : ∀ k, 1 ≤ k → k ≤ m → k ≤ l.length → (∀ j, j < k → l[j]? = some c0) → (k = m ∨ l[k]? ≠ some c0) → alikeN m l = k := by
    intro k h1 h2 h3 h4 h5
    match l, hc0 with
    | x :: t, hc0 =>
      simp at hc0
      subst hc0
      exact alikeN_is h1 h2 (by simpa using h3) h4 h5
  have HRES := Lib.hid hres
  clear hres hc0
  go_enter Tryz.func96, Tryz.ntmps96
  go_wp2_with fail
  go_loopw [5] (AlikeRel w l c0 m) (fun i _ => m - (intOf i).toNat)
  case atStart =>
    refine ⟨1, rfl, Nat.le_refl _, hm, hn0, Lib.hid fun j hj => ?_, Below.refl _ _⟩
    obtain rfl : j = 0 := by omega
    exact H0.out
  case round =>
    obtain ⟨k, rfl, hk1, hkm, hkl, HK, hbl⟩ := hrel
    have HB := Lib.hid hbl
    by_cases hlt : k < l.length ∧ k < m
    · obtain ⟨hlt1, hlt2⟩ := hlt
      have hmin : decide ((k : Int) < if m < l.length then (m : Int) else (l.length : Int)) = true := by rw [decide_eq_true_eq]; split <;> omega
      obtain ⟨x, hx⟩ : ∃ x, l[k]? = some x := ⟨l[k], by simp⟩
      have hc1 := (hbl.cell (p := ⟨b, off + k, none⟩) hb).trans (HC.out k x hx)
      have hc2 := (hbl.cell (p := ⟨b, off, none⟩) hb).trans (HC.out 0 c0 H0.out)
      have hk0 : (0 : Int) ≤ (k : Int) := by omega
      have hkl1 : (k : Int) < (l.length : Int) := by omega
      have hl0 : (0 : Int) < (l.length : Int) := by omega
      have HX := Lib.hid hx
      have HL := Lib.hid (And.intro hlt1 hlt2)
      clear hx hbl hkm hkl hlt2
      by_cases hxc : x = c0
      · subst hxc
        have hd : ((x.toNat : Int) == (x.toNat : Int)) = true := by rw [beq_iff_eq]
        go_wp2_with fail
        go_quiet (fail)
        go_wp2
        all_goals
          go_roundw
          case rel => exact ⟨k + 1, by go_num, by omega, HL.out.2, HL.out.1, Lib.hid (alike_next HK.out HX.out), below_drewN HB.out nq⟩
          case measure => have := HL.out.2; simp [intOf]; omega
      · have hxn : x.toNat ≠ c0.toNat := fun e => hxc (UInt8.toNat_inj.1 e)
        have hd : ((x.toNat : Int) == (c0.toNat : Int)) = false := by rw [beq_eq_false_iff_ne]; omega
        have hr := HRES.out k hk1 (by have := HL.out.2; omega) (by have := HL.out.1; omega) HK.out (.inr (by rw [HX.out]; simpa using hxc))
        have HR := Lib.hid hr
        clear hr
        go_wp2_with fail
        go_quiet (fail)
        go_wp2
        all_goals
          go_ret
          exact ⟨by rw [HR.out]; rfl, below_drewN HB.out nq⟩
    · have hmin : decide ((k : Int) < if m < l.length then (m : Int) else (l.length : Int)) = false := by rw [decide_eq_false_iff_not]; split <;> omega
      have hr := HRES.out k hk1 hkm hkl HK.out (by
        rcases Nat.lt_or_ge k m with g | g
        · right; rw [List.getElem?_eq_none (by omega)]; simp
        · left; omega)
      have HR := Lib.hid hr
      clear hr hlt
      go_wp2_with fail
      go_quiet (fail)
      go_wp2
      all_goals
        go_ret
        exact ⟨by rw [HR.out]; rfl, below_drewN HB.out nq⟩

theorem apart_at {l : List UInt8} {k m : Nat} (hk : k < l.length) : apartN (m + 1) (l.drop k) = if threeB (l.drop k) then 0 else apartN m (l.drop (k + 1)) + 1 := by
  rw [List.drop_eq_getElem_cons hk]
  rfl
theorem apart_end {l : List UInt8} {k m : Nat} (hk : l.length ≤ k) : apartN m (l.drop k) = 0 := by
  rw [List.drop_of_length_le hk]
  cases m <;> rfl
/-- What holds at the head of a round of apart. -/
def ApartRel (w : World) (l : List UInt8) (t : Nat) (i : Value) (wr : World) : Prop :=
  ∃ k : Nat, i = .int .i64 k ∧ 1 ≤ k ∧ k ≤ 128 ∧ k ≤ l.length ∧ Hid (k + apartN (128 - k) (l.drop k) = t) ∧ Below w.heap.size w wr

theorem size_u8r : (Tryz.prog.info? 5).map (·.size) = some 1 := by kernel_rfl
set_option maxHeartbeats 1000000 in
set_option maxRecDepth 100000 in
theorem apart_any (A : Option Addr) (n c : Nat) (l : List UInt8) (w : World) (hr : Rd w w.heap.size A (bvs l)) (hn : l.length = n) (hnc : n ≤ c) (hn0 : 0 < n) (hn1 : n ≤ 1000000000000) :
    Calls Tryz.prog 97 #[.slice A n c] w fun e w' => e = .returned (.int .i64 (apartN 127 (l.drop 1) + 1 : Nat)) ∧ Below w.heap.size w w' := by
  subst hn
  obtain ⟨T, hT⟩ : ∃ T, T = apartN 127 (l.drop 1) + 1 := ⟨_, rfl⟩
  rw [← hT]
  have HT := Lib.hid hT
  clear hT
  go_enter Tryz.func97, Tryz.ntmps97
  go_wp2_with fail
  go_loopw [3] (ApartRel w l T) (fun i _ => 128 - (intOf i).toNat)
  case atStart => exact ⟨1, rfl, Nat.le_refl _, by omega, hn0, Lib.hid ((Nat.add_comm _ _).trans HT.out.symm), Below.refl _ _⟩
  case round =>
    obtain ⟨k, rfl, hk1, hkm, hkl, HK, hbl⟩ := hrel
    have HB := Lib.hid hbl
    have HR := Lib.hid ((hr.below hbl).more hbl.size)
    by_cases hlt : k < l.length ∧ k < 128
    · obtain ⟨hlt1, hlt2⟩ := hlt
      have hmin : decide ((k : Int) < if 128 < l.length then (128 : Int) else (l.length : Int)) = true := by rw [decide_eq_true_eq]; split <;> omega
      have hst : apartN (128 - k) (l.drop k) = if threeB (l.drop k) then 0 else apartN (128 - (k + 1)) (l.drop (k + 1)) + 1 := by
        rw [show 128 - k = (128 - (k + 1)) + 1 by omega]
        exact apart_at hlt1
      have h3 := three_iff 3 (by omega) (l.drop k)
      have hd0 : 0 < l.length - k := by omega
      have C := Lib.hid fun (A' : Option Addr) (c' : Nat) (hrd : Rd wr wr.heap.size A' (bvs (l.drop k))) => alike_any A' (l.length - k) c' (l.drop k) wr hrd (by simp) hd0 (by omega) 3 (by omega)
      have HL := Lib.hid (And.intro hlt1 hlt2)
      have HST := Lib.hid hst
      have H3 := Lib.hid h3
      have HRD : Rd wr wr.heap.size (A.map (·.add k)) (bvs (l.drop k)) := by have := HR.out.drop k; rwa [bvs_drop] at this
      have HA := Lib.hid (C.out _ (c - k) HRD)
      clear hst h3 hbl hr hkm HRD C HR
      obtain ⟨a, ha⟩ : ∃ a, a = alikeN 3 (l.drop k) := ⟨_, rfl⟩
      rw [← ha] at HA H3
      clear ha
      cases h : threeB (l.drop k) with
      | true =>
        rw [h] at HST H3
        have hd : decide ((a : Int) < 3) = false := by rw [decide_eq_false_iff_not]; have := H3.out.2 rfl; omega
        have hk' := HK.out
        rw [HST.out, if_pos rfl, Nat.add_zero] at hk'
        have HKK := Lib.hid hk'
        clear hk'
        go_wp2_with fail
        all_goals
          refine HA.out.mono ?_
          rintro e w2 ⟨rfl, hb2⟩
          have HB2 := Lib.hid (HB.out.trans (hb2.mono HB.out.size))
          clear hb2
          go_wp2_with fail
          go_ret
          exact ⟨by rw [HKK.out]; rfl, HB2.out⟩
      | false =>
        rw [h] at HST H3
        have hd : decide ((a : Int) < 3) = true := by
          rw [decide_eq_true_eq]
          rcases Nat.lt_or_ge a 3 with g | g
          · omega
          · have := H3.out.1 g; cases this
        have hk' := HK.out
        rw [HST.out, if_neg (by decide)] at hk'
        have HKK := Lib.hid (show k + 1 + apartN (128 - (k + 1)) (l.drop (k + 1)) = T by omega)
        clear hk'
        go_wp2_with fail
        all_goals
          refine HA.out.mono ?_
          rintro e w2 ⟨rfl, hb2⟩
          have HB2 := Lib.hid (HB.out.trans (hb2.mono HB.out.size))
          clear hb2
          go_wp2_with fail
          go_roundw
          case rel => exact ⟨k + 1, by go_num, by omega, HL.out.2, HL.out.1, HKK, HB2.out⟩
          case measure => have := HL.out.2; simp [intOf]; omega
    · have hmin : decide ((k : Int) < if 128 < l.length then (128 : Int) else (l.length : Int)) = false := by rw [decide_eq_false_iff_not]; split <;> omega
      have hk' : k = T := by
        rw [← HK.out]
        rcases Nat.lt_or_ge k l.length with g | g
        · obtain rfl : k = 128 := by omega
          show _ = 128 + apartN 0 _
          cases hq : l.drop 128 <;> rfl
        · rw [apart_end g]; rfl
      have HKK := Lib.hid hk'
      clear hk'
      rcases Nat.lt_or_ge k l.length with g | g
      · have g1 : ¬ ((l.length : Int) ≤ 128) := by omega
        have g2 : ¬ ((k : Int) < 128) := by omega
        clear hlt g
        go_wp2_with fail
        go_ret
        exact ⟨by rw [HKK.out]; rfl, HB.out⟩
      · have g1 : ¬ (k : Int) < (l.length : Int) := by omega
        clear hlt
        go_wp2_with fail
        all_goals
          go_ret
          exact ⟨by rw [HKK.out]; rfl, HB.out⟩
end Go.Proofs.YtcenbaajojdjlaaGreatDoor
namespace Go.Proofs.YtcenbaajojdjlaaGreatDoor
open Go.RowKit

theorem ret_two {a a' b b' : Int} (h1 : a = a') (h2 : b = b') : Ending.returned (.tuple #[.int .i64 a, .int .i64 b]) = .returned (.tuple #[.int .i64 a', .int .i64 b']) := by subst h1 h2; rfl
/-- How many bytes a piece that begins with c has, and how many it tells. -/
def sizeN (c : UInt8) : Nat := if c.toNat < 128 then c.toNat + 2 else 2
def manyN (c : UInt8) : Nat := if c.toNat < 128 then c.toNat + 1 else c.toNat - 125
set_option maxHeartbeats 1000000 in
theorem first_any (A : Option Addr) (n cap : Nat) (x : UInt8) (t : List UInt8) (w : World) (hr : Rd w w.heap.size A (bvs (x :: t))) (hn : t.length + 1 = n) :
    Calls Tryz.prog 98 #[.slice A n cap] w fun e w' => e = .returned (.tuple #[.int .i64 (sizeN x : Nat), .int .i64 (manyN x : Nat)]) ∧ w = w' := by
  subst hn
  obtain ⟨b, off, rfl, hb, hcell⟩ := hr.at_ (by simp [bvs])
  have hc0 := hcell 0 (.int .u8 (x.toNat : Int)) (by simp [bvs])
  rw [Nat.add_zero] at hc0
  have h8 := x.toNat_lt
  clear hcell hr
  by_cases h : x.toNat < 128
  · have hi : (x.toNat : Int) < 128 := by omega
    have e1 : sizeN x = x.toNat + 2 := by simp [sizeN, h]
    have e2 : manyN x = x.toNat + 1 := by simp [manyN, h]
    rw [e1, e2]
    clear e1 e2
    go_enter Tryz.func98, Tryz.ntmps98
    go_wp2
    go_ret2
    exact ⟨ret_two (by omega) (by omega), rfl⟩
  · have hi : ¬ (x.toNat : Int) < 128 := by omega
    have e1 : sizeN x = 2 := by simp [sizeN, h]
    have e2 : manyN x = x.toNat - 125 := by simp [manyN, h]
    rw [e1, e2]
    clear e1 e2
    go_enter Tryz.func98, Tryz.ntmps98
    go_wp2
    go_ret2
    exact ⟨ret_two rfl (by omega), rfl⟩

set_option maxHeartbeats 1000000 in
set_option maxRecDepth 100000 in
theorem begins_any (A : Option Addr) (n c : Nat) (l : List UInt8) (w : World) (hr : Rd w w.heap.size A (bvs l)) (hn : l.length = n) (k : Nat) (hk : k ≤ 1000000000000) (hn1 : n ≤ 1000000000000) :
    Calls Tryz.prog 77 #[.slice A n c, .int .i64 (k : Int)] w fun e w' => e = .returned (.bool (threeB (l.drop k))) ∧ Below w.heap.size w w' := by
  subst hn
  by_cases hlt : k + 2 < l.length
  · obtain ⟨b, off, rfl, hb, hcell⟩ := hr.at_ (by rw [bvs_length]; omega)
    obtain ⟨x, hx⟩ : ∃ x, l[k]? = some x := ⟨l[k], by simp⟩
    obtain ⟨y, hy⟩ : ∃ y, l[k + 1]? = some y := ⟨l[k + 1], by simp⟩
    obtain ⟨z, hz⟩ : ∃ z, l[k + 2]? = some z := ⟨l[k + 2], by simp⟩
    have hT : threeB (l.drop k) = (x == y && x == z) := three_of (by simpa using hx) (by simpa using hy) (by simpa using hz)
    rw [hT]
    have hc0 := hcell k (.int .u8 (x.toNat : Int)) (by simp [bvs, hx])
    have hc1 := hcell (k + 1) (.int .u8 (y.toNat : Int)) (by simp [bvs, hy])
    have hc2 := hcell (k + 2) (.int .u8 (z.toNat : Int)) (by simp [bvs, hz])
    have hd0 : decide ((k : Int) + 2 < (l.length : Int)) = true := by rw [decide_eq_true_eq]; omega
    have hk0 : (0 : Int) ≤ (k : Int) := by omega
    have hk1 : (k : Int) < (l.length : Int) := by omega
    have hk2 : (k : Int) + 1 < (l.length : Int) := by omega
    have hk3 : (k : Int) + 2 < (l.length : Int) := by omega
    clear hT hx hy hz hcell hr hlt
    by_cases hxy : x = y
    · subst hxy
      have hd1 : ((x.toNat : Int) == (x.toNat : Int)) = true := by rw [beq_iff_eq]
      by_cases hxz : x = z
      · subst hxz
        go_enter Tryz.func77, Tryz.ntmps77
        go_wp2_with fail
        go_quiet (fail)
        go_wp2
        go_ret
        exact ⟨by simp, below_drewN (Below.refl _ _) nq⟩
      · have hd2 : ((x.toNat : Int) == (z.toNat : Int)) = false := by rw [beq_eq_false_iff_ne]; exact fun e => hxz (UInt8.toNat_inj.1 (by omega))
        have hb2 : (x == z) = false := by rw [beq_eq_false_iff_ne]; exact hxz
        rw [hb2]
        go_enter Tryz.func77, Tryz.ntmps77
        go_wp2_with fail
        go_quiet (fail)
        go_wp2
        go_ret
        exact ⟨by simp, below_drewN (Below.refl _ _) nq⟩
    · have hd2 : ((x.toNat : Int) == (y.toNat : Int)) = false := by rw [beq_eq_false_iff_ne]; exact fun e => hxy (UInt8.toNat_inj.1 (by omega))
      have hb2 : (x == y) = false := by rw [beq_eq_false_iff_ne]; exact hxy
      rw [hb2]
      go_enter Tryz.func77, Tryz.ntmps77
      go_wp2_with fail
      go_quiet (fail)
      go_wp2
      go_ret
      exact ⟨by simp, below_drewN (Below.refl _ _) nq⟩
  · have hd0 : decide ((k : Int) + 2 < (l.length : Int)) = false := by rw [decide_eq_false_iff_not]; omega
    rw [three_short (by rw [List.length_drop]; omega)]
    clear hr hlt
    go_enter Tryz.func77, Tryz.ntmps77
    go_wp2_with fail
    go_quiet (fail)
    go_wp2
    go_ret
    exact ⟨rfl, below_drewN (Below.refl _ _) nq⟩
end Go.Proofs.YtcenbaajojdjlaaGreatDoor
namespace Go.Proofs.YtcenbaajojdjlaaGreatDoor
open Go.RowKit

theorem info_u8q : (Tryz.prog.info? 5).map (fun i => (i.zero, i.size, i.bytes)) = some (some (.int .u8 0), 1, 1) := by kernel_rfl
theorem bvs_rep (y : UInt8) (m : Nat) (out : List UInt8) : bvs (out ++ List.replicate (m + 1) y) = bvs (out ++ List.replicate m y) ++ [.int .u8 (y.toNat : Int)] := by
  rw [List.replicate_succ', ← List.append_assoc, bvs_append]
  rfl
/-- What holds at the head of a round of told. -/
def ToldRel (w : World) (base : Nat) (out : List UInt8) (y : UInt8) (many : Nat) (v i : Value) (wr : World) : Prop :=
  ∃ k : Nat, k ≤ many ∧ i = .int .i64 k ∧ wr.ownsRow base 5 1 v (out.length + k) (bvs (out ++ List.replicate k y)) ∧ Below base w wr
set_option maxHeartbeats 1000000 in
set_option maxRecDepth 100000 in
theorem told_apart (base : Nat) (out : List UInt8) (v : Value) (n0 : Nat) (A : Option Addr) (n c : Nat) (x : UInt8) (t : List UInt8) (w : World) (hown : w.ownsRow base 5 1 v n0 (bvs out)) (hn0 : out.length = n0) (hbase : base ≤ w.heap.size)
    (hr : Rd w base A (bvs (x :: t))) (hn : t.length + 1 = n) (hnc : n ≤ c) (hx : x.toNat < 128) (ht : t.length = x.toNat + 1) (hb : n0 ≤ 1000000000000) (m : Int) :
    Calls Tryz.prog 99 #[v, .slice A n c, .int .i64 m] w fun e w' => ∃ v', e = .returned v' ∧ w'.ownsRow base 5 1 v' (n0 + t.length) (bvs (out ++ t)) ∧ Below base w w' := by
  obtain ⟨i0, hi, hz0, hz1, hz2⟩ := info_parts info_u8q
  subst hn0 hn
  have hr1 : Rd w base (A.map (·.add 1)) (bvs t) := by have := hr.drop 1; simpa [bvs] using this
  obtain ⟨b, off, rfl, hb1, hcell⟩ := hr.at_ (by simp [bvs])
  have hc0 := hcell 0 (.int .u8 (x.toNat : Int)) (by simp [bvs])
  rw [Nat.add_zero] at hc0
  have hi128 : (x.toNat : Int) < 128 := by omega
  have ht2 : t.length ≤ 128 := by omega
  have hlen : (bvs t).length = t.length * 1 := by rw [bvs_length, Nat.mul_one]
  have hA1 : out.length + t.length ≤ maxLen := by simp only [maxLen]; omega
  have hA2 : (out.length + t.length) * 1 ≤ 140737488355328 := by omega
  have hne : ¬ c = 1 := by omega
  have HOWN := Lib.hid hown
  have HR := Lib.hid hr1
  have HBS := Lib.hid hbase
  have HL := Lib.hid (And.intro hlen (And.intro hA1 hA2))
  clear hcell hr hr1 hown hlen hA1 hA2 ht hx hbase
  go_enter Tryz.func99, Tryz.ntmps99
  go_wp2_with ((with_reducible show wpList _ _ _ (({ dst := some 14, op := _, type := _, pos := _, after := _, guard := _ } : Oper) :: _) _ _); go_must (refine wpList_app rfl (.tmp 11) (.tmp 13) 22 rfl base 5 i0 (.int .u8 0) 1 1 Tryz.underlying22 hi hz0 hz1 hz2 rfl (by decide) _ _ _ rfl HOWN.out base _ t.length (c - 1) (bvs t) rfl HR.out HL.out.1 (bvs_one _) HL.out.2.1 HL.out.2.2 HBS.out ?_; intro v1 w1 hown1 hg1; have hb1' : Below base w w1 := (Below.refl base w).grown hg1 HBS.out (own_block HOWN.out); clear hg1))
  go_ret
  rw [← bvs_append] at hown1
  exact ⟨_, rfl, hown1, hb1'⟩
set_option maxHeartbeats 1000000 in
set_option maxRecDepth 100000 in
theorem told_alike (base : Nat) (out : List UInt8) (v : Value) (n0 : Nat) (A : Option Addr) (c : Nat) (x y : UInt8) (w : World) (hown : w.ownsRow base 5 1 v n0 (bvs out)) (hn0 : out.length = n0) (hbase : base ≤ w.heap.size)
    (hr : Rd w base A (bvs [x, y])) (hx : ¬ x.toNat < 128) (hb : n0 ≤ 1000000000000) (m : Nat) (hm : m ≤ 1000) :
    Calls Tryz.prog 99 #[v, .slice A 2 c, .int .i64 (m : Int)] w fun e w' => ∃ v', e = .returned v' ∧ w'.ownsRow base 5 1 v' (n0 + m) (bvs (out ++ List.replicate m y)) ∧ Below base w w' := by
  obtain ⟨i0, hi, hz0, hz1, hz2⟩ := info_parts info_u8q
  subst hn0
  obtain ⟨b, off, rfl, hb1, hcell⟩ := hr.at_ (by simp [bvs])
  have hc0 := hcell 0 (.int .u8 (x.toNat : Int)) (by simp [bvs])
  have hc1 := hcell 1 (.int .u8 (y.toNat : Int)) (by simp [bvs])
  rw [Nat.add_zero] at hc0
  have hi128 : ¬ (x.toNat : Int) < 128 := by omega
  have HOWN := Lib.hid hown
  clear hcell hr hx hown
  go_enter Tryz.func99, Tryz.ntmps99
  go_wp2_with fail
  go_loopw [0, 16] (ToldRel w base out y m) (fun _ i _ => m - (intOf i).toNat)
  case atStart => exact ⟨0, Nat.zero_le _, rfl, by simpa using HOWN.out, Below.refl _ _⟩
  case round =>
    clear HOWN
    obtain ⟨k, hk, rfl, hown, hbl⟩ := hrel
    have hbs := hbl.size
    by_cases hlt : k < m
    · have hk1 : (k : Int) < (m : Int) := by omega
      have hc1' := (hbl.cell (p := ⟨b, off + 1, none⟩) hb1).trans hc1
      have hA1 : out.length + k + 1 ≤ maxLen := by simp only [maxLen]; omega
      have hA2 : (out.length + k + 1) * 1 ≤ 140737488355328 := by omega
      have HOWN := Lib.hid hown
      have HB := Lib.hid (And.intro hbl (And.intro hbase hbs))
      clear hown hbl hbs hc0 hbase
      go_wp2_with ((with_reducible show wpList _ _ _ (({ dst := some 23, op := _, type := _, pos := _, after := _, guard := _ } : Oper) :: _) _ _); go_must (refine wpList_app rfl (.tmp 18) (.tmp 22) 22 rfl base 5 i0 (.int .u8 0) 1 1 Tryz.underlying22 hi hz0 hz1 hz2 rfl (by decide) _ _ _ rfl (HOWN.out.alloc _) _ _ 1 1 _ rfl (Rd.new _ _ _) rfl (by intro u hu; simp at hu; subst hu; rfl) hA1 hA2 (by have := HB.out.2; simp; omega) ?_; intro v1 w1 hown1 hg1; have hb1' : Below base w w1 := (HB.out.1.alloc (by have := HB.out.2; omega) _).grown hg1 (by have := HB.out.2; simp; omega) (own_block HOWN.out); clear hg1))
      have hown2 : w1.ownsRow base 5 1 v1 (out.length + (k + 1)) (bvs (out ++ List.replicate (k + 1) y)) := by
        rw [bvs_rep, ← Nat.add_assoc]
        exact hown1
      have HBS := Lib.hid HB.out.2.1
      clear hown1 hA1 hA2 HOWN HB
      go_roundw
      case rel => exact ⟨k + 1, by omega, by go_num, hown2, hb1'⟩
      case measure => simp [intOf]; omega
    · obtain rfl : k = m := by omega
      clear hlt
      go_wp2
      go_ret
      exact ⟨_, rfl, hown, hbl⟩
end Go.Proofs.YtcenbaajojdjlaaGreatDoor
