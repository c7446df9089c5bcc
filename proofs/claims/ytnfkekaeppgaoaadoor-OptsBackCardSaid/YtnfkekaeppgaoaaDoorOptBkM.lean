/- Layer 28: options are read from their text as they were, in whatever order the pairs stand. Plain. -/
import Derived.Test.YtnfkekaeppgaoaaDoorOptDec
import Derived.Test.YtnfkekaeppgaoaaDoorOptMath
namespace Go.Proofs.YtnfkekaeppgaoaaDoor

theorem digL_dig : ∀ (n : Nat), ∀ x ∈ digL n, 48 ≤ x.toNat ∧ x.toNat ≤ 57
  | n => by
    intro x hx
    by_cases h : n ≤ 9
    · rw [digL_one h] at hx
      obtain rfl := List.mem_singleton.1 hx
      rw [UInt8.toNat_ofNat']
      omega
    · rw [digL_more h] at hx
      rcases List.mem_append.1 hx with hx | hx
      · exact digL_dig (n / 10) x hx
      · obtain rfl := List.mem_singleton.1 hx
        rw [UInt8.toNat_ofNat']
        omega
termination_by n => n
decreasing_by omega
theorem digL_pos (n : Nat) : 0 < (digL n).length := by
  by_cases h : n ≤ 9
  · rw [digL_one h]; simp
  · rw [digL_more h]; simp
theorem digL_head : ∀ (n : Nat), 0 < n → (digL n).head? ≠ some 48
  | n => by
    intro hn
    by_cases h : n ≤ 9
    · rw [digL_one h]
      intro e
      have := congrArg (fun o => (o.getD 0).toNat) e
      simp only [List.head?_cons, Option.getD_some] at this
      rw [UInt8.toNat_ofNat'] at this
      have h48 : (48 : UInt8).toNat = 48 := rfl
      omega
    · rw [digL_more h]
      have ih := digL_head (n / 10) (by omega)
      have hp := digL_pos (n / 10)
      cases hd : digL (n / 10) with
      | nil => rw [hd] at hp; simp at hp
      | cons a t => rw [hd] at ih; simpa using ih
termination_by n => n
decreasing_by omega
theorem digL_lt : ∀ (k n : Nat), n < 10 ^ (k + 1) → (digL n).length ≤ k + 1
  | 0, n, h => by
    rw [digL_one (by omega)]
    simp
  | k + 1, n, h => by
    by_cases h9 : n ≤ 9
    · rw [digL_one h9]; simp
    · rw [digL_more h9, List.length_append, List.length_singleton]
      have := digL_lt k (n / 10) (by rw [Nat.pow_succ] at h; omega)
      omega
theorem numF_snoc : ∀ (l : List UInt8) (v : Nat) (c : UInt8), 48 ≤ c.toNat ∧ c.toNat ≤ 57 → numF v (l ++ [c]) = (numF v l).map fun w => 10 * w + c.toNat - 48
  | [], v, c, h => by
    show (if c.toNat < 48 ∨ 57 < c.toNat then none else numF (10 * v + c.toNat - 48) []) = _
    rw [if_neg (by omega)]
    rfl
  | a :: t, v, c, h => by
    rw [List.cons_append, numF, numF]
    split
    · rfl
    · exact numF_snoc t _ c h
theorem numF_digL : ∀ (n : Nat), numF 0 (digL n) = some n
  | n => by
    by_cases h : n ≤ 9
    · rw [digL_one h, numF, if_neg (by rw [UInt8.toNat_ofNat']; omega), numF]
      congr 1
      rw [UInt8.toNat_ofNat']
      omega
    · rw [digL_more h, numF_snoc _ _ _ (by rw [UInt8.toNat_ofNat']; omega), numF_digL (n / 10)]
      show some (10 * (n / 10) + (UInt8.ofNat (48 + n % 10)).toNat - 48) = some n
      rw [UInt8.toNat_ofNat']
      congr 1
      omega
termination_by n => n
decreasing_by omega
theorem numO_digL {n : Nat} (h : n < 1000000000) : numO (digL n) = some n := by
  unfold numO
  rw [if_neg, numF_digL]
  have hp := digL_pos n
  rintro (h1 | h1 | ⟨h1, h2⟩)
  · rw [h1] at hp; simp at hp
  · have := digL_lt 8 n (by simpa using h)
    omega
  · by_cases h0 : n = 0
    · rw [h0, digL_one (by decide)] at h1
      simp at h1
    · exact digL_head n (by omega) h2
/-- The pairs of options. -/
def prV (b u r m : Nat) : Nat → List UInt8
  | 0 => digL b
  | 1 => digL u
  | 2 => digL r
  | _ => nmL m
def prN (b u r m : Nat) : Nat → Nat
  | 0 => b
  | 1 => u
  | 2 => r
  | _ => m
def prL (b u r m k : Nat) : List UInt8 := keyL k ++ prV b u r m k
theorem modeAt_nm : ∀ m, m < 7 → modeAt (nmL m) = m := by decide
theorem prV_val {b u r m k : Nat} (hb : b ≤ 16777216) (hu : u ≤ 8) (hr : r ≤ 10) (hm : m ≤ 6) (hk : k < 4) : valR k (prV b u r m k) = (prN b u r m k : Int) := by
  rcases (show k = 0 ∨ k = 1 ∨ k = 2 ∨ k = 3 by omega) with rfl | rfl | rfl | rfl
  · show numR (numO (digL b)) = (b : Int)
    rw [numO_digL (by omega)]; rfl
  · show numR (numO (digL u)) = (u : Int)
    rw [numO_digL (by omega)]; rfl
  · show numR (numO (digL r)) = (r : Int)
    rw [numO_digL (by omega)]; rfl
  · show modeR (modeAt (nmL m)) = (m : Int)
    rw [modeAt_nm m (by omega)]
    exact modeR_in (by omega)
theorem pairR_pr {b u r m k : Nat} (hb : b ≤ 16777216) (hu : u ≤ 8) (hr : r ≤ 10) (hm : m ≤ 6) (hk : k < 4) {o : List Int} {s : List Bool} (hs : s.getD k false = false) : pairR (o, s) (prL b u r m k) = some (o.set k (prN b u r m k : Int), s.set k true) := by
  have hka : keyAt (prL b u r m k) = k := (keyAt_one hk).1 ⟨_, rfl⟩
  have hd : (prL b u r m k).drop (keyL k).length = prV b u r m k := by unfold prL; rw [List.drop_left]
  unfold pairR
  rw [hka, hd, prV_val hb hu hr hm hk, if_neg (by rw [hs]; simp; omega), if_neg (by omega)]
theorem nmL_free : ∀ m, m < 7 → ∀ x ∈ nmL m, x ≠ 32 := by decide
theorem keyL_free : ∀ k, k < 4 → ∀ x ∈ keyL k, x ≠ 32 := by decide
theorem digL_free (n : Nat) : ∀ x ∈ digL n, x ≠ 32 := fun x hx e => by
  have := digL_dig n x hx
  rw [e] at this
  exact absurd this (by decide)
theorem prL_free {b u r m k : Nat} (hm : m ≤ 6) (hk : k < 4) : ∀ x ∈ prL b u r m k, x ≠ 32 := by
  intro x hx
  rcases List.mem_append.1 hx with hx | hx
  · exact keyL_free k hk x hx
  · rcases (show k = 0 ∨ k = 1 ∨ k = 2 ∨ k = 3 by omega) with rfl | rfl | rfl | rfl
    · exact digL_free b x hx
    · exact digL_free u x hx
    · exact digL_free r x hx
    · exact nmL_free m (by omega) x hx
theorem prL_len {b u r m k : Nat} (hb : b ≤ 16777216) (hu : u ≤ 8) (hr : r ≤ 10) (hm : m ≤ 6) (hk : k < 4) : (prL b u r m k).length ≤ 17 := by
  unfold prL
  rw [List.length_append]
  rcases (show k = 0 ∨ k = 1 ∨ k = 2 ∨ k = 3 by omega) with rfl | rfl | rfl | rfl
  · have := digL_lt 8 b (by omega)
    simp only [prV, keyL, List.length_cons, List.length_nil]; omega
  · have := digL_lt 8 u (by omega)
    simp only [prV, keyL, List.length_cons, List.length_nil]; omega
  · have := digL_lt 8 r (by omega)
    simp only [prV, keyL, List.length_cons, List.length_nil]; omega
  · have := nmL_len hm
    simp only [prV, keyL, List.length_cons, List.length_nil]; omega
theorem cutL_cons {c : UInt8} {a t : List UInt8} (h : ∀ x ∈ a, x ≠ c) : cutL c (a ++ c :: t) = a :: cutL c t := by
  unfold cutL
  rw [cutG_free c a [] _ h, cutG, if_pos rfl]
  rfl
theorem cutL_one {c : UInt8} {a : List UInt8} (h : ∀ x ∈ a, x ≠ c) : cutL c a = [a] := by
  have := cutG_free c a [] [] h
  rw [List.append_nil] at this
  unfold cutL
  rw [this]
  rfl
def join4 (a b c d : List UInt8) : List UInt8 := a ++ 32 :: (b ++ 32 :: (c ++ 32 :: d))
theorem cut_join {a b c d : List UInt8} (ha : ∀ x ∈ a, x ≠ 32) (hb : ∀ x ∈ b, x ≠ 32) (hc : ∀ x ∈ c, x ≠ 32) (hd : ∀ x ∈ d, x ≠ 32) : cutL 32 (join4 a b c d) = [a, b, c, d] := by
  unfold join4
  rw [cutL_cons ha, cutL_cons hb, cutL_cons hc, cutL_one hd]
theorem text_join (b u r m : Nat) : textL b u r m = join4 (prL b u r m 0) (prL b u r m 1) (prL b u r m 2) (prL b u r m 3) := by
  unfold textL join4 prL kB kW kR kM
  simp [prV, keyL]
/-- The pairs, the first of them number t. -/
def rotL (b u r m t : Nat) : List UInt8 := join4 (prL b u r m ((0 + t) % 4)) (prL b u r m ((1 + t) % 4)) (prL b u r m ((2 + t) % 4)) (prL b u r m ((3 + t) % 4))
theorem rotL_zero (b u r m : Nat) : rotL b u r m 0 = textL b u r m := (text_join b u r m).symm
theorem read_rot {b u r m : Nat} (hb : b ≤ 16777216) (hu : u ≤ 8) (hr : r ≤ 10) (hm : m ≤ 6) (hmay : mayO (b : Int) (u : Int) (r : Int) (m : Int) = true) (t : Nat) : readR (rotL b u r m t) = ([(b : Int), (u : Int), (r : Int), (m : Int)], 0) := by
  have hp : ∀ {k}, k < 4 → ∀ {o : List Int} {s : List Bool}, s.getD k false = false → pairR (o, s) (prL b u r m k) = some (o.set k (prN b u r m k : Int), s.set k true) := fun {_} hk {_ _} hs => pairR_pr hb hu hr hm hk hs
  have hf : ∀ {k}, k < 4 → ∀ x ∈ prL b u r m k, x ≠ 32 := fun {_} hk => prL_free hm hk
  have hne : rotL b u r m t ≠ [] := by unfold rotL join4; simp
  have hcut : cutL 32 (rotL b u r m t) = [prL b u r m ((0 + t) % 4), prL b u r m ((1 + t) % 4), prL b u r m ((2 + t) % 4), prL b u r m ((3 + t) % 4)] :=
    cut_join (hf (by omega)) (hf (by omega)) (hf (by omega)) (hf (by omega))
  have key : pairsR (cutL 32 (rotL b u r m t)) ([65536, 1, 0, 6], [false, false, false, false]) = some ([(b : Int), (u : Int), (r : Int), (m : Int)], [true, true, true, true]) := by
    rw [hcut]
    rcases (show t % 4 = 0 ∨ t % 4 = 1 ∨ t % 4 = 2 ∨ t % 4 = 3 by omega) with h | h | h | h
    · rw [show (0 + t) % 4 = 0 by omega, show (1 + t) % 4 = 1 by omega, show (2 + t) % 4 = 2 by omega, show (3 + t) % 4 = 3 by omega]
      rw [pairsR, hp (by decide) rfl, Option.bind_some, pairsR, hp (by decide) rfl, Option.bind_some, pairsR, hp (by decide) rfl, Option.bind_some, pairsR, hp (by decide) rfl]
      rfl
    · rw [show (0 + t) % 4 = 1 by omega, show (1 + t) % 4 = 2 by omega, show (2 + t) % 4 = 3 by omega, show (3 + t) % 4 = 0 by omega]
      rw [pairsR, hp (by decide) rfl, Option.bind_some, pairsR, hp (by decide) rfl, Option.bind_some, pairsR, hp (by decide) rfl, Option.bind_some, pairsR, hp (by decide) rfl]
      rfl
    · rw [show (0 + t) % 4 = 2 by omega, show (1 + t) % 4 = 3 by omega, show (2 + t) % 4 = 0 by omega, show (3 + t) % 4 = 1 by omega]
      rw [pairsR, hp (by decide) rfl, Option.bind_some, pairsR, hp (by decide) rfl, Option.bind_some, pairsR, hp (by decide) rfl, Option.bind_some, pairsR, hp (by decide) rfl]
      rfl
    · rw [show (0 + t) % 4 = 3 by omega, show (1 + t) % 4 = 0 by omega, show (2 + t) % 4 = 1 by omega, show (3 + t) % 4 = 2 by omega]
      rw [pairsR, hp (by decide) rfl, Option.bind_some, pairsR, hp (by decide) rfl, Option.bind_some, pairsR, hp (by decide) rfl, Option.bind_some, pairsR, hp (by decide) rfl]
      rfl
  unfold readR
  rw [if_neg hne, key]
  show (if mayL [(b : Int), (u : Int), (r : Int), (m : Int)] = true then ([(b : Int), (u : Int), (r : Int), (m : Int)], 0) else ([0, 0, 0, 0], 10)) = _
  rw [if_pos (show mayL [(b : Int), (u : Int), (r : Int), (m : Int)] = true from hmay)]
end Go.Proofs.YtnfkekaeppgaoaaDoor
