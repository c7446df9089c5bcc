/- Layer 21: who has a code; the fixed calls. -/
import Derived.Test.YtjncmfoommlldaaCanonMak
namespace Go.Proofs.Ytjncmfoommlldaa
open Go.RowKit Go.Sort Go.Shelf

theorem ents_mem {l S : List Nat} (h : OrdL l S) {q : Pr × Nat} : q ∈ entsS l S ↔ ∃ i, i < l.length ∧ 0 < l.getD i 0 ∧ q = (codeP l i, i) := by
  unfold entsS
  rw [List.mem_map]
  constructor
  · rintro ⟨i, hi, rfl⟩
    have := h.mem.1 hi
    exact ⟨i, this.1, this.2, rfl⟩
  · rintro ⟨i, h1, h2, rfl⟩
    exact ⟨i, h.mem.2 ⟨h1, h2⟩, rfl⟩
/-- A code's letter is found. -/
theorem find_letter {l S : List Nat} (h : OrdL l S) {i : Nat} (hi : i < l.length) (h0 : 0 < l.getD i 0) {x y : Int} (hx : x = (codeL l i : Int)) (hy : y = (l.getD i 0 : Int)) : ∃ r, findC x y (entsS l S) 0 = some (r, .int .i64 (i : Int)) :=
  findC_some x y _ 0 (codeP l i, i) ((ents_mem h).2 ⟨i, hi, h0, rfl⟩) ⟨hx, hy⟩ fun q hq hqe => by
    obtain ⟨j, hj, hj0, rfl⟩ := (ents_mem h).1 hq
    obtain ⟨e1, e2⟩ := hqe
    have e1' : x = (codeL l j : Int) := e1
    have e2' : y = (l.getD j 0 : Int) := e2
    exact codeL_one l hj hi (Int.ofNat_inj.1 (e2'.symm.trans hy)) (Int.ofNat_inj.1 (e1'.symm.trans hx))
theorem find_none {l S : List Nat} (h : OrdL l S) {x y : Int} (hn : ∀ i, i < l.length → 0 < l.getD i 0 → ¬ (x = (codeL l i : Int) ∧ y = (l.getD i 0 : Int))) : findC x y (entsS l S) 0 = none :=
  findC_none x y _ 0 fun q hq => by
    obtain ⟨j, hj, hj0, rfl⟩ := (ents_mem h).1 hq
    exact hn j hj hj0
theorem pat_code {l S : List Nat} (h : OrdL l S) {i : Nat} (hi : i < l.length) : pat (codesS l S) i = if 0 < l.getD i 0 then codeP l i else (0, 0) := by
  rw [codesS_get l S hi]
  by_cases h0 : 0 < l.getD i 0
  · rw [if_pos h0, if_pos (h.mem.2 ⟨hi, h0⟩)]
  · rw [if_neg h0, if_neg (fun hm => h0 (h.mem.1 hm).2)]
end Go.Proofs.Ytjncmfoommlldaa
