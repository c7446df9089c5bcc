/- Layer 24: weights, and the chance that is mixed. Pure. -/
import Derived.Test.YtnghcfogigglmaaBase
namespace Go.Proofs.Ytnghcfogigglmaa
open Go.RowKit

/-- A number as a part of the whole. -/
def clM (p : Int) : Int := min (max p 0) 65536
theorem clM_ok (p : Int) : 0 ≤ clM p ∧ clM p ≤ 65536 := by unfold clM; omega
/-- Each chance times its weight, all together. -/
def dotM : List Int → List Int → Int
  | w :: W, p :: L => w * clM p + dotM W L
  | _, _ => 0
def heldM (p : Int) : Int := min (max p 32) 65504
theorem heldM_ok (p : Int) : 32 ≤ heldM p ∧ heldM p ≤ 65504 := by unfold heldM; omega
/-- The mixed chance. -/
def mixM (W L : List Int) : Int := heldM (dotM W L / W.sum)
/-- How far a chance is from a bit. -/
def farM (p bit : Int) : Int := if bit = 0 then p else 65536 - p
/-- What becomes of a weight. -/
def nextM (x own mixed : Int) : Int := if own < mixed then min (x + 1) 255 else if mixed < own then max (x - 1) 1 else x
/-- What becomes of all. -/
def seenM (W L : List Int) (bit : Int) : List Int := List.zipWith (fun x p => nextM x (farM (clM p) bit) (farM (mixM W L) bit)) W L
/-- Weights are 1 to 255. -/
structure WtsM (n : Nat) (W : List Int) : Prop where
  len : W.length = n
  ok : ∀ x ∈ W, 1 ≤ x ∧ x ≤ 255
theorem nextM_ok {x : Int} (h : 1 ≤ x ∧ x ≤ 255) (a b : Int) : 1 ≤ nextM x a b ∧ nextM x a b ≤ 255 := by
  unfold nextM
  split
  · omega
  · split <;> omega
theorem WtsM.seen {n : Nat} {W L : List Int} (h : WtsM n W) (hl : L.length = n) (bit : Int) : WtsM n (seenM W L bit) :=
  ⟨by simp [seenM, h.len, hl], fun x hx => by
    unfold seenM at hx
    obtain ⟨i, hi, rfl⟩ := List.getElem_of_mem hx
    rw [List.getElem_zipWith]
    exact nextM_ok (h.ok _ (List.getElem_mem _)) _ _⟩
theorem WtsM.first (n : Nat) : WtsM n (List.replicate n 64) := ⟨by simp, fun x hx => by obtain ⟨-, rfl⟩ := List.mem_replicate.1 hx; omega⟩
theorem sumM_le : ∀ {W : List Int}, (∀ x ∈ W, 1 ≤ x ∧ x ≤ 255) → (W.length : Int) ≤ W.sum ∧ W.sum ≤ 255 * W.length
  | [], _ => by simp
  | x :: W, h => by
    have h1 := h x List.mem_cons_self
    have h2 := sumM_le (W := W) fun y hy => h y (List.mem_cons_of_mem _ hy)
    simp only [List.sum_cons, List.length_cons]
    omega
theorem dotM_le : ∀ {W : List Int} (L : List Int) (lo hi : Int), (∀ x ∈ W, 1 ≤ x ∧ x ≤ 255) → W.length = L.length → (∀ p ∈ L, lo ≤ clM p ∧ clM p ≤ hi) → lo * W.sum ≤ dotM W L ∧ dotM W L ≤ hi * W.sum
  | [], [], lo, hi, _, _, _ => by simp [dotM]
  | x :: W, p :: L, lo, hi, h, hl, hp => by
    have h1 := h x List.mem_cons_self
    have h2 := dotM_le (W := W) L lo hi (fun y hy => h y (List.mem_cons_of_mem _ hy)) (by simpa using hl) (fun q hq => hp q (List.mem_cons_of_mem _ hq))
    have h3 := hp p List.mem_cons_self
    have h4 := Int.mul_le_mul_of_nonneg_left h3.1 (show 0 ≤ x by omega)
    have h5 := Int.mul_le_mul_of_nonneg_left h3.2 (show 0 ≤ x by omega)
    simp only [dotM, List.sum_cons, Int.mul_add]
    rw [Int.mul_comm lo x, Int.mul_comm hi x]
    omega
  | [], _ :: _, _, _, _, hl, _ => by simp at hl
  | _ :: _, [], _, _, _, hl, _ => by simp at hl
theorem dotM_ok {n : Nat} {W L : List Int} (h : WtsM n W) (hl : L.length = n) : 0 ≤ dotM W L ∧ dotM W L ≤ 65536 * W.sum := by
  have := dotM_le L 0 65536 h.ok (by rw [h.len, hl]) fun p _ => clM_ok p
  omega
theorem dotM_append : ∀ (W L W' L' : List Int), W.length = L.length → dotM (W ++ W') (L ++ L') = dotM W L + dotM W' L'
  | [], [], _, _, _ => by simp [dotM]
  | x :: W, p :: L, W', L', h => by
    have := dotM_append W L W' L' (by simpa using h)
    simp only [List.cons_append, dotM, this]
    omega
  | [], _ :: _, _, _, h => by simp at h
  | _ :: _, [], _, _, h => by simp at h
theorem dotM_snoc {W L : List Int} {k : Nat} (hw : k < W.length) (hl : k < L.length) : dotM (W.take (k + 1)) (L.take (k + 1)) = dotM (W.take k) (L.take k) + W[k] * clM L[k] := by
  rw [List.take_add_one, List.take_add_one, List.getElem?_eq_getElem hw, List.getElem?_eq_getElem hl, dotM_append _ _ _ _ (by simp; omega)]
  simp [dotM]
theorem sumM_snoc {W : List Int} {k : Nat} (hw : k < W.length) : (W.take (k + 1)).sum = (W.take k).sum + W[k] := by
  rw [List.take_add_one, List.getElem?_eq_getElem hw, List.sum_append]
  simp
/-- What is told by chances that all lie within two bounds. -/
theorem mixM_within {n : Nat} {W L : List Int} (h : WtsM n W) (hl : L.length = n) (h0 : 0 < n) {lo hi : Int} (hp : ∀ p ∈ L, lo ≤ clM p ∧ clM p ≤ hi) : min (max lo 32) 65504 ≤ mixM W L ∧ mixM W L ≤ max (min hi 65504) 32 := by
  have h1 := dotM_le L lo hi h.ok (by rw [h.len, hl]) hp
  have h2 := (sumM_le h.ok).1
  rw [h.len] at h2
  have h3 : lo ≤ dotM W L / W.sum := Int.le_ediv_of_mul_le (by omega) h1.1
  have h4 : dotM W L / W.sum ≤ hi := Int.ediv_le_of_le_mul (by omega) h1.2
  unfold mixM heldM
  omega
theorem seenM_get {n : Nat} {W L : List Int} (h : WtsM n W) (hl : L.length = n) (bit : Int) {k : Nat} (hk : k < n) :
    (seenM W L bit)[k]? = some (nextM (W[k]'(by rw [h.len]; exact hk)) (farM (clM (L[k]'(by rw [hl]; exact hk))) bit) (farM (mixM W L) bit)) := by
  unfold seenM
  rw [List.getElem?_zipWith, List.getElem?_eq_getElem (by rw [h.len]; exact hk), List.getElem?_eq_getElem (by rw [hl]; exact hk)]
/-- The first k weights have followed. -/
def stepM (W L : List Int) (bit : Int) (k : Nat) : List Int := (seenM W L bit).take k ++ W.drop k
theorem stepM_zero (W L : List Int) (bit : Int) : stepM W L bit 0 = W := by simp [stepM]
theorem stepM_all {n : Nat} {W L : List Int} (h : WtsM n W) (hl : L.length = n) (bit : Int) : stepM W L bit n = seenM W L bit := by
  have := (h.seen hl bit).len
  unfold stepM
  rw [List.drop_of_length_le (by rw [h.len]; exact Nat.le_refl _), List.append_nil, List.take_of_length_le (by omega)]
theorem stepM_len {n : Nat} {W L : List Int} (h : WtsM n W) (hl : L.length = n) (bit : Int) {k : Nat} (hk : k ≤ n) : (stepM W L bit k).length = n := by
  have h1 := (h.seen hl bit).len
  have h2 := h.len
  simp [stepM]; omega
theorem stepM_get {n : Nat} {W L : List Int} (h : WtsM n W) (hl : L.length = n) (bit : Int) {k : Nat} (hk : k < n) : (stepM W L bit k)[k]? = some (W[k]'(by rw [h.len]; exact hk)) := by
  have h1 := (h.seen hl bit).len
  unfold stepM
  rw [List.getElem?_append_right (by simp; omega), List.getElem?_drop]
  simp only [List.length_take]
  rw [show k + (k - min k (seenM W L bit).length) = k by omega, List.getElem?_eq_getElem]
theorem stepM_succ {n : Nat} {W L : List Int} (h : WtsM n W) (hl : L.length = n) (bit : Int) {k : Nat} (hk : k < n) :
    (stepM W L bit k).set k (nextM (W[k]'(by rw [h.len]; exact hk)) (farM (clM (L[k]'(by rw [hl]; exact hk))) bit) (farM (mixM W L) bit)) = stepM W L bit (k + 1) := by
  have h1 := (h.seen hl bit).len
  unfold stepM
  rw [List.set_append_right _ _ (by simp; omega)]
  simp only [List.length_take]
  rw [show k - min k (seenM W L bit).length = 0 by omega, List.take_add_one, seenM_get h hl bit hk, List.append_assoc]
  congr 1
  have hd : W.drop k = W[k]'(by rw [h.len]; exact hk) :: W.drop (k + 1) := List.drop_eq_getElem_cons (by rw [h.len]; exact hk)
  rw [hd, List.set_cons_zero]
  rfl
end Go.Proofs.Ytnghcfogigglmaa
