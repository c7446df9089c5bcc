/- A slice of parts that came in. -/
import Derived.Test.YtgdebfjjohoghaaProg
import Derived.Test.YtgdebfjjohoghaaS3List
import Derived.Deep.Slices
import Derived.Deep.Strs
import Derived.Lib.SmallJoins
import Derived.OpenShut
namespace Go.Proofs.Ytgdebfjjohoghaa
open Go.RowKit Go.ChangeShapes Go.WideShapes Go.Deep Go.Joins

theorem cells_part : Try.prog.cellsOf 29 = 3 := by kernel_rfl
theorem cells_intP : Try.prog.cellsOf 3 = 1 := by kernel_rfl
theorem wf_i64P {n : Int} (h : (Lit.int .i64 n).wf = true) : -9223372036854775808 ≤ n ∧ n ≤ 9223372036854775807 := by
  simpa [Lit.wf, IntKind.min, IntKind.max, IntKind.signed, IntKind.bits] using h

theorem parts_of {H : Type} {enc : TypeId × Value → H} {w : World} {base : Nat} {spare : Nat → Bool} {held : Bool} {fuel len cap : Nat} {a : Option Addr} {x : DataW H × List MemPlace}
    (h : DataW.trod enc Try.prog w base spare held fuel 22 [.slice a len cap] = some x) :
    ∃ ss : List S3, (∀ s ∈ ss, S3Ok s) ∧ ss.length = len ∧ len ≤ 9223372036854775807 ∧ RdS3 w w.heap.size a ss := by
  rcases open_slice Try.underlying22 h with ⟨hcs, _⟩ | ⟨ad, l, c, m, n, D, Pl, hcs, _, hl, hm, hmm, _, hx⟩
  · simp only [List.cons.injEq, Value.slice.injEq, and_true] at hcs
    obtain ⟨rfl, rfl, rfl⟩ := hcs
    exact ⟨[], by simp, rfl, by omega, fun i s hs => by simp at hs⟩
  · simp only [List.cons.injEq, Value.slice.injEq, and_true] at hcs
    obtain ⟨rfl, rfl, rfl⟩ := hcs
    have hle : len ≤ m := by rw [hmm]; split <;> omega
    have hs0 : 0 < len → ad.spot = none := by
      intro hp
      obtain ⟨cs', h1, _⟩ := hx 0 (by omega)
      rw [cells_part] at h1
      obtain ⟨_, hlen, hat⟩ := World.cells?_some h1
      have t0 := hat 0 (by decide)
      rw [List.getElem?_eq_getElem (by omega)] at t0
      have := World.cell?_spot t0
      simpa [Addr.add] using this
    have key : ∀ i, i < len → ∃ s : S3, S3Ok s ∧ ∃ b off, ad = ⟨b, off, none⟩ ∧ b < w.heap.size ∧
        w.cell? ⟨b, off + i * 3, none⟩ = some (.int .i64 s.kind) ∧ w.cell? ⟨b, off + i * 3 + 1, none⟩ = some (.int .i64 s.i) ∧ w.cell? ⟨b, off + i * 3 + 2, none⟩ = some (.int .i64 s.n) := by
      intro i hi
      obtain ⟨cs', h1, h2⟩ := hx i (by omega)
      rw [cells_part] at h1
      obtain ⟨_, hlen, hat⟩ := World.cells?_some h1
      obtain ⟨y0, y1, y2, n', _, _, g0, g1, g2⟩ := trod_struct3 Try.underlying29 h2
      match cs', hlen with
      | [c0, c1, c2], _ =>
        simp only [cells_intP] at g0 g1 g2
        obtain ⟨k0, e0, _, w0⟩ := DataW.trod_int Try.underlying3 g0
        obtain ⟨k1, e1, _, w1⟩ := DataW.trod_int Try.underlying3 g1
        obtain ⟨k2, e2, _, w2⟩ := DataW.trod_int Try.underlying3 g2
        simp at e0 e1 e2
        subst e0 e1 e2
        have r0 := wf_i64P w0
        have r1 := wf_i64P w1
        have r2 := wf_i64P w2
        have t0 := hat 0 (by decide)
        have t1 := hat 1 (by decide)
        have t2 := hat 2 (by decide)
        simp only [List.getElem?_cons_zero, List.getElem?_cons_succ] at t0 t1 t2
        obtain ⟨b, off, spot⟩ := ad
        have hspot : spot = none := hs0 (by omega)
        subst hspot
        rw [add_plain, add_plain] at t0 t1 t2
        exact ⟨⟨k0, k1, k2⟩, ⟨r0, r1, r2⟩, b, off, rfl, World.block_lt_of_cell? w _ t0, t0, t1, t2⟩
    refine ⟨(List.range len).map fun i => if hi : i < len then Classical.choose (key i hi) else ⟨0, 0, 0⟩, ?_, by simp, by simp only [maxLen] at hm; omega, ?_⟩
    · intro s hs
      obtain ⟨i, hi, rfl⟩ := List.mem_map.1 hs
      have hi' := List.mem_range.1 hi
      rw [dif_pos hi']
      exact (Classical.choose_spec (key i hi')).1
    · intro i s hs
      have hi' : i < len := by
        have := (List.getElem?_eq_some_iff.1 hs).1
        simpa using this
      have he : s = Classical.choose (key i hi') := by
        simp [hi'] at hs
        exact hs.symm
      obtain ⟨_, b, off, hA, hb, h0, h1, h2⟩ := Classical.choose_spec (key i hi')
      rw [he]
      exact ⟨b, off, congrArg some hA, hb, h0, h1, h2⟩
end Go.Proofs.Ytgdebfjjohoghaa
