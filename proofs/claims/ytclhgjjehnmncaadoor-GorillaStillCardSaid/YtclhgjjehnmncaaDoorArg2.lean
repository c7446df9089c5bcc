/- A slice of words that came in. -/
import Derived.Test.YtclhgjjehnmncaaDoorArg
import Derived.Test.YtclhgjjehnmncaaDoorMore
namespace Go.Proofs.YtclhgjjehnmncaaDoor
open Go.RowKit

/-- A slice of numbers of 64 bits that came in reads as a list of numbers. -/
theorem nums_of_row {w : World} {a : Option Addr} {len cap : Nat} {zs : List Int}
    (h : (a = none ∧ len = 0 ∧ cap = 0 ∧ zs = []) ∨ ∃ x, a = some x ∧ len ≤ cap ∧ cap ≤ maxLen ∧ zs.length = cap ∧ (∀ i, i < zs.length → w.cell? (x.add i) = some (.int .u64 (zs.getD i 0))) ∧ ∀ n ∈ zs, (Lit.int .u64 n).wf = true) :
    ∃ l : List Nat, l.length = len ∧ len ≤ cap ∧ cap ≤ 9223372036854775807 ∧ Rd w w.heap.size a (wvs l) ∧ ∀ x ∈ l, x < 18446744073709551616 := by
  rcases h with ⟨rfl, rfl, rfl, rfl⟩ | ⟨x, rfl, hlc, hcm, hz, hcell, hwf⟩
  · exact ⟨[], rfl, Nat.le_refl _, by omega, Rd.nil_ _ _ _, fun _ h => by simp at h⟩
  · simp only [maxLen] at hcm
    have hwf' : ∀ n ∈ zs, 0 ≤ n ∧ n ≤ 18446744073709551615 := fun n hn => by
      have := hwf n hn
      simpa [Lit.wf, IntKind.min, IntKind.max, IntKind.signed, IntKind.bits] using this
    refine ⟨(zs.take len).map Int.toNat, by simp; omega, hlc, by omega, fun k u hu => ?_, fun y hy => ?_⟩
    · have hk : k < len := by
        have := (List.getElem?_eq_some_iff.1 hu).1
        simp [wvs] at this
        omega
      obtain ⟨b, off, rfl, hc⟩ := ints_at hcell (by omega)
      have hck := hc k (by omega)
      have hz0 : zs[k]? = some zs[k] := by simp
      have hw := hwf' zs[k] (List.getElem_mem _)
      have he : u = .int .u64 (zs.getD k 0) := by
        simp [wvs, hk, hz0] at hu
        rw [← hu]
        simp [List.getD_eq_getElem?_getD, hz0]
        omega
      subst he
      exact ⟨b, off, rfl, World.block_lt_of_cell? w _ hck, hck⟩
    · obtain ⟨z, hz1, rfl⟩ := List.mem_map.1 hy
      have := hwf' z (List.mem_of_mem_take hz1)
      omega
end Go.Proofs.YtclhgjjehnmncaaDoor
