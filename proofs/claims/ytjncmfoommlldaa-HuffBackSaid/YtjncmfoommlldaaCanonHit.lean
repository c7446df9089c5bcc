/- Layer 21: of bits: whose code is ahead. -/
import Derived.Test.YtjncmfoommlldaaCanonKn
import Derived.Test.YtjncmfoommlldaaLensWh
namespace Go.Proofs.Ytjncmfoommlldaa
open Go.RowKit Go.Sort Go.Shelf

/-- Letter tells of a code of n bits just where the bits hit. -/
theorem letter_hit {l S : List Nat} (h : OrdL l S) (v n : Nat) (hn : 1 ≤ n) :
    (hit (lenC l) v n ∧ ∃ r i, findC ((v / 2 ^ (15 - n) : Nat) : Int) (n : Int) (entsS l S) 0 = some (r, .int .i64 ((i : Nat) : Int))) ∨ (¬ hit (lenC l) v n ∧ findC ((v / 2 ^ (15 - n) : Nat) : Int) (n : Int) (entsS l S) 0 = none) := by
  by_cases hh : hit (lenC l) v n
  · obtain ⟨i, hi, h1, h2⟩ := codeL_some l hn hh.1 hh.2
    obtain ⟨r, hr⟩ := find_letter h hi (by omega) (x := ((v / 2 ^ (15 - n) : Nat) : Int)) (y := (n : Int)) (by rw [h2]) (by rw [h1])
    exact .inl ⟨hh, r, i, hr⟩
  · refine .inr ⟨hh, find_none h fun i hi h0 e => hh ?_⟩
    have e1 := Int.ofNat_inj.1 e.1
    have e2 := Int.ofNat_inj.1 e.2
    have h3 := codeL_in l hi h0
    unfold hit
    rw [e1, e2]
    exact h3
/-- How often there was a hit so far. -/
def HitQ (l : List Nat) (v N F : Nat) : Prop := F ≤ 1 ∧ (F = 1 ↔ ∃ m, 1 ≤ m ∧ m < N ∧ hit (lenC l) v m)
theorem hitQ_start (l : List Nat) (v : Nat) : HitQ l v 1 0 := ⟨by decide, ⟨fun h => absurd h (by decide), fun ⟨m, h1, h2, _⟩ => absurd h2 (by omega)⟩⟩
theorem hitQ_yes {l : List Nat} {v N F : Nat} (h : HitQ l v N F) (h1 : 1 ≤ N) (hN : N ≤ 15) (hh : hit (lenC l) v N) : F = 0 ∧ HitQ l v (N + 1) (F + 1) := by
  have h0 : F = 0 := by
    have := h.1
    refine Classical.byContradiction fun hne => ?_
    obtain ⟨m, a, b, c⟩ := h.2.1 (by omega)
    exact hit_one (lenC l) v a hN b c hh
  subst h0
  exact ⟨rfl, by decide, ⟨fun _ => ⟨N, h1, by omega, hh⟩, fun _ => rfl⟩⟩
theorem hitQ_no {l : List Nat} {v N F : Nat} (h : HitQ l v N F) (hh : ¬ hit (lenC l) v N) : HitQ l v (N + 1) F :=
  ⟨h.1, h.2.trans ⟨fun ⟨m, a, b, c⟩ => ⟨m, a, by omega, c⟩, fun ⟨m, a, b, c⟩ => ⟨m, a, by
    by_cases e : m = N
    · subst e; exact absurd c hh
    · omega, c⟩⟩⟩
theorem hitQ_end {l : List Nat} {v F K : Nat} (h : HitQ l v 16 F) (hk : kraftL l = K) : F = if v < K then 1 else 0 := by
  have e : bound (lenC l) 15 = K := by rw [bound_all, ← kraft_ends, hk]
  by_cases hv : v < K
  · rw [if_pos hv]
    obtain ⟨m, a, b, c⟩ := hit_some (lenC l) v (by rw [e]; exact hv)
    exact h.2.2 ⟨m, a, by omega, c⟩
  · rw [if_neg hv]
    have := h.1
    refine Classical.byContradiction fun hne => ?_
    obtain ⟨m, a, b, c⟩ := h.2.1 (by omega)
    exact hit_none (lenC l) v (by rw [e]; exact hv) a (by omega) c
/-- Lens are whole where there is a letter. -/
theorem lens_whole {c o : List Int} (h : LensOfR c o) (hc : ∀ x ∈ c, 0 ≤ x) (h1 : 1 ≤ (posL c).length) : WholeC o := by
  obtain ⟨c', q1, q2, -, q4⟩ := lens_end h hc
  by_cases h2 : 2 ≤ (posL c).length
  · exact .inl ((lens_kraft h hc).2.2 h2)
  · right
    have e : (posL c').length = 1 := by rw [posL_many, q4, ← posL_many]; omega
    obtain ⟨g, hg, rfl⟩ := q1
    rw [e] at hg
    have hd := one_deep hg
    have key : ∀ (c : List Int) (j : Nat), posL (lensF g.d c j) = (List.range (posL c).length).map fun i => ((max (g.d (j + i)) 1 : Nat) : Int) := by
      intro c
      induction c with
      | nil => intro j; rfl
      | cons x c ih =>
        intro j
        unfold lensF
        by_cases hx : 0 < x
        · rw [if_pos hx]
          unfold posL at ih ⊢
          rw [List.filter_cons_of_pos (by simp; omega), List.filter_cons_of_pos (by simpa using hx), ih, List.length_cons, List.range_succ_eq_map, List.map_cons, List.map_map]
          congr 1
          refine List.map_congr_left fun i _ => ?_
          simp only [Function.comp]
          rw [show j + 1 + i = j + (i + 1) by omega]
        · rw [if_neg hx]
          unfold posL at ih ⊢
          rw [List.filter_cons_of_neg (by decide), List.filter_cons_of_neg (by simpa using hx), ih]
    rw [key, e]
    simp [List.range_succ, hd]
theorem lens_none {c o : List Int} (h : LensOfR c o) (hc : ∀ x ∈ c, 0 ≤ x) (h1 : (posL c).length = 0) : ¬ WholeC o := fun hw => by
  have hk := (lens_kraft h hc).1 h1
  rcases hw with hw | hw
  · omega
  · have : kraftI o = 16384 := by rw [kraft_posL, hw]; decide
    omega
theorem lens_ok {c o : List Int} (h : LensOfR c o) (hc : ∀ x ∈ c, 0 ≤ x) : o.any cBad = false := by
  rw [cBad_none]
  intro x hx
  obtain ⟨i, hi, rfl⟩ := List.getElem_of_mem hx
  have := lens_at h hc hi (by rw [← h.len]; exact hi)
  exact ⟨this.1, this.2.1⟩
end Go.Proofs.Ytjncmfoommlldaa
