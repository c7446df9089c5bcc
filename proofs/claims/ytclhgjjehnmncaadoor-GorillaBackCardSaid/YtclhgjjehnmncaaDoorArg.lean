/- What a law says of its end; arguments that came in. -/
import Derived.Test.YtclhgjjehnmncaaDoorBase
import Derived.OpenShut
namespace Go.Proofs.YtclhgjjehnmncaaDoor
open Go.RowKit

/-- What answers true, and turns nothing that was there. -/
def Yes (w : World) (e : Ending) (w' : World) : Prop := e = .returned (.bool true) ∧ Below w.heap.size w w'

/-- A slice of bytes that came in reads as a list of bytes. -/
theorem rd_of_row {w : World} {a : Option Addr} {len cap : Nat} {zs : List Int}
    (h : (a = none ∧ len = 0 ∧ cap = 0 ∧ zs = []) ∨ ∃ x, a = some x ∧ len ≤ cap ∧ cap ≤ maxLen ∧ zs.length = cap ∧ (∀ i, i < zs.length → w.cell? (x.add i) = some (.int .u8 (zs.getD i 0))) ∧ ∀ n ∈ zs, (Lit.int .u8 n).wf = true) :
    ∃ l : List UInt8, l.length = len ∧ len ≤ cap ∧ cap ≤ 9223372036854775807 ∧ Rd w w.heap.size a (bvs l) := by
  rcases h with ⟨rfl, rfl, rfl, rfl⟩ | ⟨x, rfl, hlc, hcm, hz, hcell, hwf⟩
  · exact ⟨[], rfl, Nat.le_refl _, by omega, Rd.nil_ _ _ _⟩
  · simp only [maxLen] at hcm
    refine ⟨(zs.take len).map fun z => UInt8.ofNat z.toNat, by simp; omega, hlc, by omega, fun k u hu => ?_⟩
    have hk : k < len := by
      have := (List.getElem?_eq_some_iff.1 hu).1
      simp [bvs] at this
      omega
    obtain ⟨b, off, rfl, hc⟩ := ints_at hcell (by omega)
    have hck := hc k (by omega)
    have hz0 : zs[k]? = some zs[k] := by simp
    have hw : 0 ≤ zs[k] ∧ zs[k] ≤ 255 := by
      have := hwf zs[k] (List.getElem_mem _)
      simpa [Lit.wf, IntKind.min, IntKind.max, IntKind.signed, IntKind.bits] using this
    have he : u = .int .u8 (zs.getD k 0) := by
      simp [bvs, hk, hz0] at hu
      rw [← hu]
      simp [List.getD_eq_getElem?_getD, hz0]
      omega
    subst he
    exact ⟨b, off, rfl, World.block_lt_of_cell? w _ hck, hck⟩
/-- A number of 32 bits that came in. -/
theorem u32_arg {a : Int} (h : (Lit.int .u32 a).wf = true) : ∃ s : BitVec 32, a = (s.toNat : Int) := by
  have h0 : 0 ≤ a ∧ a ≤ 4294967295 := by simpa [Lit.wf, IntKind.min, IntKind.max, IntKind.signed, IntKind.bits] using h
  refine ⟨BitVec.ofNat 32 a.toNat, ?_⟩
  rw [BitVec.toNat_ofNat, Nat.mod_eq_of_lt (by omega)]
  omega
end Go.Proofs.YtclhgjjehnmncaaDoor
