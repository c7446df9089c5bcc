/- Plain mathematics of layer 16: shares as bytes, and back. Written ahead of the code. -/
import Derived.Test.YtfdgnhfppginiaaBitMath
namespace Go.Proofs.Ytfdgnhfppginiaa

/-- The bytes of shares, behind so many noughts. -/
def hPutF : Nat → List Int → List UInt8
  | z, [] => lput z
  | z, x :: l => if x = 0 then hPutF (z + 1) l else lput z ++ (lput (x - 1).toNat ++ hPutF 0 l)
def hPut (l : List Int) : List UInt8 := hPutF 0 l
theorem hPutF_nil (z : Nat) : hPutF z [] = lput z := rfl
theorem hPutF_zero (z : Nat) (l : List Int) : hPutF z (0 :: l) = hPutF (z + 1) l := by simp [hPutF]
theorem hPutF_some (z : Nat) {x : Int} (l : List Int) (h : x ≠ 0) : hPutF z (x :: l) = lput z ++ (lput (x - 1).toNat ++ hPutF 0 l) := by simp [hPutF, h]

/-- Noughts. -/
def zerosI (n : Nat) : List Int := List.replicate n 0
theorem zerosI_len (n : Nat) : (zerosI n).length = n := by simp [zerosI]
theorem zerosI_cons (n : Nat) (l : List Int) : zerosI (n + 1) ++ l = zerosI n ++ 0 :: l := by
  unfold zerosI; rw [List.replicate_succ', List.append_assoc]; rfl
/-- Of bytes the shares, and how many bytes these are: so many rounds at most. -/
def hGetF : Nat → List Int → List UInt8 → Nat → Option (List Int × Nat)
  | 0, _, _, _ => none
  | f + 1, out, b, at_ =>
    if (lget b).2.2 ≠ 0 ∨ 65535 < (lget b).1 then none
    else if 256 < out.length + (lget b).1 then none
    else if out.length + (lget b).1 = 256 then some (out ++ zerosI (lget b).1, at_ + (lget b).2.1)
    else if (lget (b.drop (lget b).2.1)).2.2 ≠ 0 ∨ 65535 < (lget (b.drop (lget b).2.1)).1 then none
    else hGetF f (out ++ zerosI (lget b).1 ++ [((lget (b.drop (lget b).2.1)).1 : Int) + 1]) ((b.drop (lget b).2.1).drop (lget (b.drop (lget b).2.1)).2.1) (at_ + (lget b).2.1 + (lget (b.drop (lget b).2.1)).2.1)
def hGet (b : List UInt8) : Option (List Int × Nat) := hGetF 257 [] b 0
/-- One round. -/
theorem hGetF_bad {f : Nat} {out : List Int} {b : List UInt8} {at_ n k e : Nat} (h : lget b = (n, k, e)) (hb : e ≠ 0 ∨ 65535 < n ∨ 256 < out.length + n) : hGetF (f + 1) out b at_ = none := by
  simp only [hGetF, h]
  by_cases h1 : e ≠ 0 ∨ 65535 < n
  · rw [if_pos h1]
  · rw [if_neg h1, if_pos (by omega)]
theorem hGetF_last {f : Nat} {out : List Int} {b : List UInt8} {at_ n k : Nat} (h : lget b = (n, k, 0)) (hn : n ≤ 65535) (hb : out.length + n = 256) : hGetF (f + 1) out b at_ = some (out ++ zerosI n, at_ + k) := by
  simp only [hGetF, h]
  rw [if_neg (by omega), if_neg (by omega), if_pos hb]
theorem hGetF_bad2 {f : Nat} {out : List Int} {b : List UInt8} {at_ n k n2 k2 e2 : Nat} (h : lget b = (n, k, 0)) (hn : n ≤ 65535) (hb : out.length + n < 256) (h2 : lget (b.drop k) = (n2, k2, e2)) (hb2 : e2 ≠ 0 ∨ 65535 < n2) : hGetF (f + 1) out b at_ = none := by
  simp only [hGetF, h, h2]
  rw [if_neg (by omega), if_neg (by omega), if_neg (by omega), if_pos hb2]
theorem hGetF_more {f : Nat} {out : List Int} {b : List UInt8} {at_ n k n2 k2 : Nat} (h : lget b = (n, k, 0)) (hn : n ≤ 65535) (hb : out.length + n < 256) (h2 : lget (b.drop k) = (n2, k2, 0)) (hb2 : n2 ≤ 65535) :
    hGetF (f + 1) out b at_ = hGetF f (out ++ zerosI n ++ [(n2 : Int) + 1]) (b.drop (k + k2)) (at_ + k + k2) := by
  simp only [hGetF, h, h2]
  rw [if_neg (by omega), if_neg (by omega), if_neg (by omega), if_neg (by omega), List.drop_drop]
/-- More rounds than there can be change nothing. -/
theorem hGetF_fuel : ∀ (f f' : Nat) (out : List Int) (b : List UInt8) (at_ : Nat), out.length ≤ 256 → 257 ≤ f + out.length → 257 ≤ f' + out.length → hGetF f out b at_ = hGetF f' out b at_ := by
  intro f
  induction f with
  | zero => intro f' out b at_ h0 h1; omega
  | succ f ih =>
    intro f' out b at_ h0 h1 h2
    obtain ⟨g, rfl⟩ : ∃ g, f' = g + 1 := ⟨f' - 1, by omega⟩
    obtain ⟨⟨n, k, e⟩, hl⟩ : ∃ t, lget b = t := ⟨_, rfl⟩
    by_cases hb : e ≠ 0 ∨ 65535 < n ∨ 256 < out.length + n
    · rw [hGetF_bad hl hb, hGetF_bad hl hb]
    · obtain rfl : e = 0 := by omega
      by_cases hb2 : out.length + n = 256
      · rw [hGetF_last hl (by omega) hb2, hGetF_last hl (by omega) hb2]
      · obtain ⟨⟨n2, k2, e2⟩, hl2⟩ : ∃ t, lget (b.drop k) = t := ⟨_, rfl⟩
        by_cases hb3 : e2 ≠ 0 ∨ 65535 < n2
        · rw [hGetF_bad2 hl (by omega) (by omega) hl2 hb3, hGetF_bad2 hl (by omega) (by omega) hl2 hb3]
        · obtain rfl : e2 = 0 := by omega
          rw [hGetF_more hl (by omega) (by omega) hl2 (by omega), hGetF_more hl (by omega) (by omega) hl2 (by omega)]
          have hlen : (out ++ zerosI n ++ [(n2 : Int) + 1]).length = out.length + n + 1 := by simp [zerosI]; omega
          exact ih g _ _ _ (by omega) (by omega) (by omega)
theorem lget_lput {n : Nat} (h : n ≤ 65536) (more : List UInt8) : lget (lput n ++ more) = (n, (lput n).length, 0) := lget_put n more (by omega)
/-- What was put is got, whatever is behind. -/
theorem hGetF_put : ∀ (l : List Int) (z f : Nat) (out : List Int) (more : List UInt8) (at_ : Nat), (∀ x ∈ l, 0 ≤ x ∧ x ≤ 65536) → out.length + z + l.length = 256 → 257 ≤ f + out.length →
    hGetF f out (hPutF z l ++ more) at_ = some (out ++ zerosI z ++ l, at_ + (hPutF z l).length) := by
  intro l
  induction l with
  | nil =>
    intro z f out more at_ _ h1 h2
    obtain ⟨g, rfl⟩ : ∃ g, f = g + 1 := ⟨f - 1, by simp at h1; omega⟩
    simp only [List.length_nil, Nat.add_zero] at h1
    rw [hPutF_nil, hGetF_last (lget_lput (by omega) more) (by omega) h1, List.append_nil]
  | cons x l ih =>
    intro z f out more at_ hx h1 h2
    have hx0 := hx x List.mem_cons_self
    have hl := fun y hy => hx y (List.mem_cons_of_mem _ hy)
    simp only [List.length_cons] at h1
    by_cases h0 : x = 0
    · subst h0
      rw [hPutF_zero, ih (z + 1) f out more at_ hl (by omega) h2, List.append_assoc out, zerosI_cons, ← List.append_assoc]
    · obtain ⟨g, rfl⟩ : ∃ g, f = g + 1 := ⟨f - 1, by omega⟩
      rw [hPutF_some z l h0]
      have e1 : lput z ++ (lput (x - 1).toNat ++ hPutF 0 l) ++ more = lput z ++ (lput (x - 1).toNat ++ (hPutF 0 l ++ more)) := by simp only [List.append_assoc]
      have hd : (lput z ++ (lput (x - 1).toNat ++ (hPutF 0 l ++ more))).drop (lput z).length = lput (x - 1).toNat ++ (hPutF 0 l ++ more) := List.drop_left
      have hd2 : (lput z ++ (lput (x - 1).toNat ++ (hPutF 0 l ++ more))).drop ((lput z).length + (lput (x - 1).toNat).length) = hPutF 0 l ++ more := by
        rw [← List.drop_drop, hd, List.drop_left]
      rw [e1, hGetF_more (lget_lput (by omega) _) (by omega) (by omega) (by rw [hd]; exact lget_lput (by omega) _) (by omega), hd2]
      have e2 : (((x - 1).toNat : Nat) : Int) + 1 = x := by omega
      rw [e2, ih 0 g (out ++ zerosI z ++ [x]) more _ hl (by simp [zerosI]; omega) (by simp [zerosI]; omega)]
      congr 2
      · simp [zerosI]
      · simp only [List.length_append]; omega
theorem hGet_put {l : List Int} (hl : l.length = 256) (hx : ∀ x ∈ l, 0 ≤ x ∧ x ≤ 65536) (more : List UInt8) : hGet (hPut l ++ more) = some (l, (hPut l).length) := by
  have := hGetF_put l 0 257 [] more 0 hx (by simp; omega) (by simp)
  simpa [hGet, hPut, zerosI] using this
end Go.Proofs.Ytfdgnhfppginiaa
