/- Plain mathematics of layer 15: numbers that are shared out to letters. Written ahead of the code. -/
import Derived.Test.YtfdgnhfppginiaaNormMath
namespace Go.Proofs.Ytfdgnhfppginiaa

/-- Whose each number is, of the first k letters' ones. -/
def sRow (c : List Int) : Nat → List Nat
  | 0 => []
  | k + 1 => sRow c k ++ List.replicate (c.getD k 0).toNat k
theorem sRow_len {c : List Int} (hc : ∀ x ∈ c, 0 ≤ x) : ∀ k, k ≤ c.length → ((sRow c k).length : Int) = fPre c k := by
  intro k
  induction k with
  | zero => intro _; simp [sRow, fPre_zero]
  | succ k ih =>
    intro hk
    have h1 := ih (by omega)
    have h2 := hc _ (List.getElem_mem (show k < c.length by omega))
    have e : c.getD k 0 = c[k] := by simp [List.getD_eq_getElem?_getD, show k < c.length by omega]
    rw [fPre_succ c k (by omega), ← h1]
    simp only [sRow, List.length_append, List.length_replicate, e]
    omega
/-- Whose a number is. -/
theorem sRow_get {c : List Int} (hc : ∀ x ∈ c, 0 ≤ x) {v : Nat} {r : Nat} (h : fFind c (v : Int) = some r) : ∀ k, r < k → k ≤ c.length → (sRow c k)[v]? = some r := by
  obtain ⟨-, hr, h2, h1⟩ := fFind_in h
  intro k
  induction k with
  | zero => intro h; omega
  | succ k ih =>
    intro hk hkc
    have hl := sRow_len hc k (by omega)
    simp only [sRow]
    by_cases e : r = k
    · subst e
      have hs := fPre_succ c r hr
      have e : c.getD r 0 = c[r] := by simp [List.getD_eq_getElem?_getD, hr]
      rw [List.getElem?_append_right (by omega), List.getElem?_replicate, if_pos (by rw [e]; omega)]
    · have := fPre_mono hc (a := r + 1) (b := k) (by omega)
      rw [List.getElem?_append_left (by omega)]
      exact ih (by omega) (by omega)
/-- Each number below all together is one letter's. -/
theorem fFind_all {c : List Int} (hc : ∀ x ∈ c, 0 ≤ x) {v : Int} (h0 : 0 ≤ v) (h1 : v < c.sum) : ∃ r, fFind c v = some r ∧ r < c.length ∧ fPre c r ≤ v ∧ v < fPre c (r + 1) := by
  obtain ⟨h2, h3⟩ := fSeek_find hc h0 h1 (k := c.length) Nat.lt_two_pow_self
  have := fFind_in h2
  exact ⟨_, h2, h3, this.2.2.2, this.2.2.1⟩
end Go.Proofs.Ytfdgnhfppginiaa
