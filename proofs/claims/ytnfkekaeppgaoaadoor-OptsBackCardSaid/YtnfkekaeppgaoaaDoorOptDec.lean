/- Layer 28: a text gone through by its runes; where a byte first stands; the keys of pairs. Plain. -/
import Derived.Test.YtnfkekaeppgaoaaDoorOptMath
import Derived.Lib.OthersKept
import Derived.Laws.RangeAny
namespace Go.Proofs.YtnfkekaeppgaoaaDoor

/-- Behind the first byte of a rune stand bytes of the form 10xxxxxx. -/
theorem dec_cont (s : ByteArray) (i k : Nat) (h1 : 1 ≤ k) : k < (Utf8.decode s i).2 → i + k < s.size ∧ (s.get! (i + k)).toNat / 64 = 2 := by
  have hc : ∀ j, (decide (i + j < s.size) && (s.get! (i + j)).toNat / 64 == 2) = true → i + j < s.size ∧ (s.get! (i + j)).toNat / 64 = 2 := fun j h => by simpa using h
  unfold Utf8.decode
  dsimp only
  split
  · intro h; dsimp only at h; omega
  split
  · rename_i hb
    rw [Bool.and_eq_true] at hb
    split
    · intro h; dsimp only at h
      rw [show k = 1 by omega]; exact hc 1 hb.2
    · intro h; dsimp only at h; omega
  split
  · rename_i hb
    rw [Bool.and_eq_true, Bool.and_eq_true] at hb
    split
    · intro h; dsimp only at h
      rcases (show k = 1 ∨ k = 2 by omega) with e | e <;> subst e
      · exact hc 1 hb.1.2
      · exact hc 2 hb.2
    · intro h; dsimp only at h; omega
  split
  · rename_i hb
    rw [Bool.and_eq_true, Bool.and_eq_true, Bool.and_eq_true] at hb
    split
    · intro h; dsimp only at h
      rcases (show k = 1 ∨ k = 2 ∨ k = 3 by omega) with e | e | e <;> subst e
      · exact hc 1 hb.1.1.2
      · exact hc 2 hb.1.2
      · exact hc 3 hb.2
    · intro h; dsimp only at h; omega
  · intro h; dsimp only at h; omega
/-- A rune of a text: how many bytes it takes, and that none of its bytes but an only one lies below 128. -/
theorem dec_any {l : List UInt8} {p : Nat} (h : p < l.length) : ∃ r n : Nat, Utf8.decode (strA l) p = (r, n) ∧ 1 ≤ n ∧ p + n ≤ l.length ∧ r ≤ 2147483647 ∧
    ((r = (l.getD p 0).toNat ∧ n = 1 ∧ r < 128) ∨ (128 ≤ r ∧ ∀ j, p ≤ j → j < p + n → 128 ≤ (l.getD j 0).toNat)) := by
  have hs : (strA l).size = l.length := strA_size l
  have hp : p < (strA l).size := by omega
  have hg : ∀ j, j < l.length → (strA l).get! j = l.getD j 0 := fun j hj => by
    have h1 : j < (strA l).size := by omega
    have : (strA l).get! j = (strA l)[j] := get_at (strA l) j h1
    rw [this, strA_get, List.getD_eq_getElem?_getD, List.getElem?_eq_getElem hj]; rfl
  by_cases ha : (l.getD p 0).toNat < 128
  · have h0 : ((strA l)[p]'hp).toNat < 128 := by rw [strA_get]; rwa [List.getD_eq_getElem?_getD, List.getElem?_eq_getElem h] at ha
    refine ⟨_, _, decode_ascii (strA l) p hp h0, by decide, by omega, by omega, .inl ⟨?_, rfl, h0⟩⟩
    rw [strA_get, List.getD_eq_getElem?_getD, List.getElem?_eq_getElem h]; rfl
  · have h0 : 128 ≤ ((strA l)[p]'hp).toNat := by
      rw [strA_get]
      rw [List.getD_eq_getElem?_getD, List.getElem?_eq_getElem h] at ha
      simp only [Option.getD_some] at ha
      omega
    obtain ⟨h1, h2⟩ := decode_high (strA l) p hp h0
    have h3 := dec_cont (strA l) p
    have h4 := decode_le (strA l) p
    obtain ⟨⟨r, n⟩, hd⟩ : ∃ d, d = Utf8.decode (strA l) p := ⟨_, rfl⟩
    rw [← hd] at h1 h2 h3 h4
    dsimp only at h1 h2 h3 h4
    refine ⟨r, n, hd.symm, h2, ?_, h4, .inr ⟨h1, ?_⟩⟩
    · by_cases e1 : n = 1
      · omega
      · have := (h3 (n - 1) (by omega) (by omega)).1
        omega
    · intro j hj hj2
      by_cases hjp : j = p
      · rw [hjp]; omega
      · obtain ⟨q1, q2⟩ := h3 (j - p) (by omega) (by omega)
        rw [show p + (j - p) = j by omega] at q1 q2
        rw [hg j (by omega)] at q2
        omega
/-- From f to p no byte is c. -/
def Free (c : UInt8) (l : List UInt8) (f p : Nat) : Prop := ∀ j, f ≤ j → j < p → l.getD j 0 ≠ c
theorem Free.nil (c : UInt8) (l : List UInt8) (f : Nat) : Free c l f f := fun j h1 h2 => by omega
theorem Free.one {c : UInt8} {l : List UInt8} {f p : Nat} (h : Free c l f p) (hc : (l.getD p 0).toNat ≠ c.toNat) : Free c l f (p + 1) := fun j h1 h2 => by
  by_cases e : j = p
  · rw [e]; exact fun x => hc (by rw [x])
  · exact h j h1 (by omega)
theorem Free.more {c : UInt8} {l : List UInt8} {f p n : Nat} (h : Free c l f p) (hc : c.toNat < 128) (hh : ∀ j, p ≤ j → j < p + n → 128 ≤ (l.getD j 0).toNat) : Free c l f (p + n) := fun j h1 h2 => by
  by_cases e : j < p
  · exact h j h1 e
  · exact fun x => by have := hh j (by omega) h2; rw [x] at this; omega
theorem getD_drop0 (l : List UInt8) (f j : Nat) : (l.drop f).getD j 0 = l.getD (f + j) 0 := by
  rw [List.getD_eq_getElem?_getD, List.getD_eq_getElem?_getD, List.getElem?_drop]
/-- Where the first c stands; the length, where none does. -/
def idxC (c : UInt8) : List UInt8 → Nat
  | [] => 0
  | x :: t => if x = c then 0 else idxC c t + 1
theorem idxC_app (c : UInt8) : ∀ (a : List UInt8) (t : List UInt8), (∀ x ∈ a, x ≠ c) → idxC c (a ++ c :: t) = a.length
  | [], t, _ => by simp [idxC]
  | x :: a, t, h => by rw [List.cons_append, idxC, if_neg (h x (by simp)), idxC_app c a t (fun y hy => h y (by simp [hy]))]; rfl
theorem idxC_at (c : UInt8) : ∀ (l : List UInt8), idxC c l < l.length → l.drop (idxC c l) = c :: l.drop (idxC c l + 1)
  | [], h => by simp at h
  | x :: t, h => by
    unfold idxC at h ⊢
    by_cases e : x = c
    · simp [e]
    · rw [if_neg e] at h ⊢
      simpa using idxC_at c t (by simpa using h)
theorem free_idx {c : UInt8} : ∀ {l : List UInt8} {p : Nat}, Free c l 0 p → p < l.length → l.getD p 0 = c → idxC c l = p
  | [], _, _, hp, _ => by simp at hp
  | a :: t, 0, _, _, hc => by
    have : a = c := hc
    rw [idxC, if_pos this]
  | a :: t, p + 1, h, hp, hc => by
    rw [idxC, if_neg (show a ≠ c from h 0 (Nat.zero_le _) (by omega)), free_idx (l := t) (p := p) (fun j _ hj => h (j + 1) (Nat.zero_le _) (by omega)) (by simpa using hp) hc]
theorem free_none {c : UInt8} : ∀ {l : List UInt8}, Free c l 0 l.length → idxC c l = l.length
  | [], _ => rfl
  | a :: t, h => by
    rw [idxC, if_neg (show a ≠ c from h 0 (Nat.zero_le _) (by simp)), free_none (l := t) (fun j _ hj => h (j + 1) (Nat.zero_le _) (by simpa using hj))]
    rfl
/-- A text's pieces: ahead of the first c, and those behind it. -/
theorem cutG_free (c : UInt8) : ∀ (a cur : List UInt8) (t : List UInt8), (∀ x ∈ a, x ≠ c) → cutG c cur (a ++ t) = cutG c (cur ++ a) t
  | [], cur, t, _ => by simp
  | x :: a, cur, t, h => by
    rw [List.cons_append, cutG, if_neg (h x (by simp)), cutG_free c a (cur ++ [x]) t (fun y hy => h y (by simp [hy]))]
    simp
theorem free_take {c : UInt8} {l : List UInt8} {f p : Nat} (h : Free c l f p) (hp : p ≤ l.length) : ∀ x ∈ (l.drop f).take (p - f), x ≠ c := by
  intro x hx
  obtain ⟨j, hj, e⟩ := List.getElem_of_mem hx
  rw [List.length_take, List.length_drop] at hj
  have h2 := h (f + j) (by omega) (by omega)
  rw [List.getElem_take, List.getElem_drop] at e
  rw [List.getD_eq_getElem?_getD, List.getElem?_eq_getElem (by omega)] at h2
  rw [← e]
  exact h2
theorem cut_found {c : UInt8} {l : List UInt8} {f p : Nat} (hf : f ≤ p) (h : Free c l f p) (hp : p < l.length) (hc : l.getD p 0 = c) : cutL c (l.drop f) = (l.drop f).take (p - f) :: cutL c (l.drop (p + 1)) := by
  have e : l.drop f = (l.drop f).take (p - f) ++ c :: l.drop (p + 1) := by
    have h1 : l.drop p = c :: l.drop (p + 1) := by
      rw [List.drop_eq_getElem_cons hp]
      congr 1
      rw [List.getD_eq_getElem?_getD, List.getElem?_eq_getElem hp] at hc
      exact hc
    have h2 := (List.take_append_drop (p - f) (l.drop f)).symm
    rw [List.drop_drop, show f + (p - f) = p by omega, h1] at h2
    exact h2
  have hfr := free_take h (by omega)
  generalize (l.drop f).take (p - f) = a at e hfr ⊢
  rw [e]
  unfold cutL
  rw [cutG_free c a [] _ hfr, cutG, if_pos rfl]
  simp
theorem cut_last {c : UInt8} {l : List UInt8} {f : Nat} (h : Free c l f l.length) : cutL c (l.drop f) = [l.drop f] := by
  have hfr := free_take h (Nat.le_refl _)
  rw [List.take_of_length_le (by rw [List.length_drop]; omega)] at hfr
  unfold cutL
  have := cutG_free c (l.drop f) [] [] hfr
  rw [List.append_nil] at this
  rw [this]
  simp [cutG]
/-- The keys without their =. -/
def keyN : Nat → List UInt8
  | 0 => [98, 108, 111, 99, 107]
  | 1 => [119, 105, 100, 116, 104]
  | 2 => [114, 101, 99, 105, 112, 101]
  | _ => [109, 111, 100, 101]
theorem keyL_N (k : Nat) : keyL k = keyN k ++ [61] := by
  rcases (show k = 0 ∨ k = 1 ∨ k = 2 ∨ k ≥ 3 by omega) with rfl | rfl | rfl | h
  · rfl
  · rfl
  · rfl
  · obtain ⟨j, rfl⟩ : ∃ j, k = j + 3 := ⟨k - 3, by omega⟩
    rfl
theorem keyN_free (k : Nat) : 61 ∉ keyN k := by
  rcases (show k = 0 ∨ k = 1 ∨ k = 2 ∨ k ≥ 3 by omega) with rfl | rfl | rfl | h
  · decide
  · decide
  · decide
  · obtain ⟨j, rfl⟩ : ∃ j, k = j + 3 := ⟨k - 3, by omega⟩
    show 61 ∉ [109, 111, 100, 101]
    decide
/-- A text with = begins with the key that stands ahead of its first =. -/
theorem key_cut {x : List UInt8} {k : Nat} (hk : k < 4) : keyAt x = k ↔ idxC 61 x < x.length ∧ x.take (idxC 61 x) = keyN k := by
  rw [← keyAt_one hk, keyL_N]
  constructor
  · rintro ⟨t, rfl⟩
    have hi : idxC 61 (keyN k ++ [61] ++ t) = (keyN k).length := by
      rw [List.append_assoc]
      exact idxC_app 61 (keyN k) t (fun x hx e => keyN_free k (e ▸ hx))
    rw [hi]
    exact ⟨by simp, by simp⟩
  · rintro ⟨h1, h2⟩
    refine ⟨x.drop (idxC 61 x + 1), ?_⟩
    have h3 := idxC_at 61 x h1
    have h4 := List.take_append_drop (idxC 61 x) x
    rw [h3, h2] at h4
    rw [List.append_assoc]
    exact h4
theorem key_drop {x : List UInt8} {k : Nat} (hk : k < 4) (h : keyAt x = k) : x.drop (keyL k).length = x.drop (idxC 61 x + 1) := by
  obtain ⟨h1, h2⟩ := (key_cut hk).1 h
  have : (keyL k).length = idxC 61 x + 1 := by
    rw [keyL_N, List.length_append, ← h2, List.length_take]
    simp
    omega
  rw [this]
theorem keyAt_le (x : List UInt8) : keyAt x ≤ 4 := by unfold keyAt; (repeat' split) <;> omega
end Go.Proofs.YtnfkekaeppgaoaaDoor
