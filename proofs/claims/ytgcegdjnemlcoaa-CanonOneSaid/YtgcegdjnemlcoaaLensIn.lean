/- Layer 20: slices of short and long numbers that came in. -/
import Derived.Test.YtgcegdjnemlcoaaLensLaws
import Derived.Test.YtgcegdjnemlcoaaLensWh
namespace Go.Proofs.Ytgcegdjnemlcoaa
open Go.RowKit Go.Sort Go.Shelf

/-- Numbers of 32 bits as cells. -/
def gvs (l : List Nat) : List Value := l.map fun (x : Nat) => Value.int .u32 (x : Int)
theorem gvs_get (l : List Nat) (k : Nat) (h : k < l.length) : (gvs l)[k]? = some (Value.int .u32 (l[k] : Int)) := by simp [gvs, h]
/-- A slice of numbers of 32 bits that came in reads as a list of such. -/
theorem longs_of_row {w : World} {a : Option Addr} {len cap : Nat} {zs : List Int}
    (h : (a = none ∧ len = 0 ∧ cap = 0 ∧ zs = []) ∨ ∃ x, a = some x ∧ len ≤ cap ∧ cap ≤ maxLen ∧ zs.length = cap ∧ (∀ i, i < zs.length → w.cell? (x.add i) = some (.int .u32 (zs.getD i 0))) ∧ ∀ n ∈ zs, (Lit.int .u32 n).wf = true) :
    ∃ l : List Nat, l.length = len ∧ len ≤ 9223372036854775807 ∧ (∀ x ∈ l, x < 4294967296) ∧ Rd w w.heap.size a (gvs l) := by
  rcases h with ⟨rfl, rfl, rfl, rfl⟩ | ⟨x, rfl, hlc, hcm, hz, hcell, hwf⟩
  · exact ⟨[], rfl, by decide, by simp, Rd.nil_ _ _ _⟩
  · have hr : ∀ y ∈ zs, 0 ≤ y ∧ y ≤ 4294967295 := fun y hy => by
      have := hwf y hy
      simpa [Lit.wf, IntKind.min, IntKind.max, IntKind.signed, IntKind.bits] using this
    simp only [maxLen] at hcm
    refine ⟨(zs.take len).map Int.toNat, by simp; omega, by omega, fun y hy => ?_, fun k u hu => ?_⟩
    · obtain ⟨z, hz, rfl⟩ := List.mem_map.1 hy
      have := hr z (List.mem_of_mem_take hz)
      omega
    · have hk : k < len := by
        have := (List.getElem?_eq_some_iff.1 hu).1
        simp [gvs] at this
        omega
      obtain ⟨b, off, rfl, hc⟩ := ints_at hcell (by omega)
      have hck := hc k (by omega)
      have hg := hr _ (List.getElem_mem (show k < zs.length by omega))
      have he : u = .int .u32 (zs.getD k 0) := by
        have hd : zs.getD k 0 = zs[k]'(by omega) := by simp [List.getD_eq_getElem?_getD, show k < zs.length by omega]
        rw [hd]
        have hlk : k < ((zs.take len).map Int.toNat).length := by simp; omega
        rw [gvs_get _ _ hlk] at hu
        injection hu with hu
        rw [← hu]
        simp
        omega
      subst he
      exact ⟨b, off, rfl, World.block_lt_of_cell? w _ hck, hck⟩
/-- A slice of short numbers that came in reads as a list of such. -/
theorem shorts_of_rowL {w : World} {a : Option Addr} {len cap : Nat} {zs : List Int}
    (h : (a = none ∧ len = 0 ∧ cap = 0 ∧ zs = []) ∨ ∃ x, a = some x ∧ len ≤ cap ∧ cap ≤ maxLen ∧ zs.length = cap ∧ (∀ i, i < zs.length → w.cell? (x.add i) = some (.int .u16 (zs.getD i 0))) ∧ ∀ n ∈ zs, (Lit.int .u16 n).wf = true) :
    ∃ l : List Nat, l.length = len ∧ len ≤ 9223372036854775807 ∧ (∀ x ∈ l, x < 65536) ∧ Rd w w.heap.size a (hvs l) := by
  rcases h with ⟨rfl, rfl, rfl, rfl⟩ | ⟨x, rfl, hlc, hcm, hz, hcell, hwf⟩
  · exact ⟨[], rfl, by decide, by simp, Rd.nil_ _ _ _⟩
  · have hr : ∀ y ∈ zs, 0 ≤ y ∧ y ≤ 65535 := fun y hy => by
      have := hwf y hy
      simpa [Lit.wf, IntKind.min, IntKind.max, IntKind.signed, IntKind.bits] using this
    simp only [maxLen] at hcm
    refine ⟨(zs.take len).map Int.toNat, by simp; omega, by omega, fun y hy => ?_, fun k u hu => ?_⟩
    · obtain ⟨z, hz, rfl⟩ := List.mem_map.1 hy
      have := hr z (List.mem_of_mem_take hz)
      omega
    · have hk : k < len := by
        have := (List.getElem?_eq_some_iff.1 hu).1
        simp [hvs] at this
        omega
      obtain ⟨b, off, rfl, hc⟩ := ints_at hcell (by omega)
      have hck := hc k (by omega)
      have hg := hr _ (List.getElem_mem (show k < zs.length by omega))
      have he : u = .int .u16 (zs.getD k 0) := by
        have hd : zs.getD k 0 = zs[k]'(by omega) := by simp [List.getD_eq_getElem?_getD, show k < zs.length by omega]
        rw [hd]
        have hlk : k < ((zs.take len).map Int.toNat).length := by simp; omega
        rw [hvs_get _ _ hlk] at hu
        injection hu with hu
        rw [← hu]
        simp
        omega
      subst he
      exact ⟨b, off, rfl, World.block_lt_of_cell? w _ hck, hck⟩
/-- Numbers as they are, of either sign. -/
def natsJ (l : List Nat) : List Int := l.map fun (x : Nat) => (x : Int)
theorem natsJ_take (l : List Nat) {k : Nat} (h : k < l.length) : natsJ (l.take (k + 1)) = natsJ (l.take k) ++ [(l[k] : Int)] := by
  unfold natsJ; rw [List.take_add_one, List.getElem?_eq_getElem h, List.map_append]; rfl
theorem natsJ_len (l : List Nat) : (natsJ l).length = l.length := List.length_map ..
theorem natsJ_nn (l : List Nat) : ∀ x ∈ natsJ l, 0 ≤ x := fun x hx => by obtain ⟨y, -, rfl⟩ := List.mem_map.1 hx; omega
theorem natsJ_get (l : List Nat) {k : Nat} (h : k < (natsJ l).length) : (natsJ l)[k] = ((l[k]'(by rw [natsJ_len] at h; exact h) : Nat) : Int) := List.getElem_map _
theorem natsJ_good {l : List Nat} (h : ∀ x ∈ l, x < 4294967296) : Good (natsJ l) := fun x hx => by
  obtain ⟨y, hy, rfl⟩ := List.mem_map.1 hx
  have := h y hy
  omega
theorem rank_step (l : List Nat) {k : Nat} (h : k < l.length) : ∃ p : Nat, p ≤ 1 ∧ min ((l[k] : Nat) : Int) 1 = (p : Int) ∧ rankL (natsJ l) (k + 1) = rankL (natsJ l) k + p := by
  have hk : k < (natsJ l).length := by rw [natsJ_len]; exact h
  have h1 := rankL_succ (natsJ l) k hk
  rw [natsJ_get l hk] at h1
  by_cases e : 0 < ((l[k] : Nat) : Int)
  · rw [if_pos e] at h1; exact ⟨1, by decide, by omega, h1⟩
  · rw [if_neg e] at h1; exact ⟨0, by decide, by omega, h1⟩
theorem rank_le (c : List Int) (k : Nat) : rankL c k ≤ k := by
  unfold rankL posL
  exact Nat.le_trans (List.length_filter_le _ _) (by rw [List.length_take]; omega)
end Go.Proofs.Ytgcegdjnemlcoaa
