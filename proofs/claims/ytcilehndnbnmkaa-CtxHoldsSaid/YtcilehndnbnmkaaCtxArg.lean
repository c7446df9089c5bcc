/- A slice of steps of a key and a bit that came in. -/
import Derived.Test.YtcilehndnbnmkaaInts
import Derived.ChangeSame
import Derived.Deep.Slices
import Derived.Deep.Strs
import Derived.Lib.SmallJoins
import Derived.OpenShut
namespace Go.Proofs.Ytcilehndnbnmkaa
open Go.RowKit Go.ChangeShapes Go.WideShapes Go.Deep Go.Joins

/-- A key, and a bit. -/
structure KB where
  key : Nat
  bit : Int
/-- The steps ss lie from address A on, below block B. -/
def RdKB (w : World) (B : Nat) (A : Option Addr) (ss : List KB) : Prop :=
  ∀ i s, ss[i]? = some s → ∃ b off, A = some ⟨b, off, none⟩ ∧ b < B ∧
    w.cell? ⟨b, off + i * 2, none⟩ = some (.int .u32 (s.key : Int)) ∧ w.cell? ⟨b, off + i * 2 + 1, none⟩ = some (.int .i64 s.bit)
theorem RdKB.below {w w' : World} {B : Nat} {A : Option Addr} {ss : List KB} (h : RdKB w B A ss) (hb : Below B w w') : RdKB w' B A ss := fun i s hs => by
  obtain ⟨b, off, e, hlt, h0, h1⟩ := h i s hs
  exact ⟨b, off, e, hlt, (hb.cell (p := ⟨b, _, none⟩) hlt).trans h0, (hb.cell (p := ⟨b, _, none⟩) hlt).trans h1⟩
theorem cells_kb : Try.prog.cellsOf 33 = 2 := by kernel_rfl
theorem cells_kb0 : Try.prog.cellsOf 23 = 1 := by kernel_rfl
theorem cells_kb1 : Try.prog.cellsOf 3 = 1 := by kernel_rfl
theorem wf_kb0 {n : Int} (h : (Lit.int .u32 n).wf = true) : 0 ≤ n ∧ n ≤ 4294967295 := by
  simpa [Lit.wf, IntKind.min, IntKind.max, IntKind.signed, IntKind.bits] using h

theorem stepsKB_of {H : Type} {enc : TypeId × Value → H} {w : World} {base : Nat} {spare : Nat → Bool} {held : Bool} {fuel len cap : Nat} {a : Option Addr} {x : DataW H × List MemPlace}
    (h : DataW.trod enc Try.prog w base spare held fuel 22 [.slice a len cap] = some x) :
    ∃ ss : List KB, (∀ s ∈ ss, s.key < 4294967296) ∧ ss.length = len ∧ len ≤ 9223372036854775807 ∧ RdKB w w.heap.size a ss := by
  rcases open_slice Try.underlying22 h with ⟨hcs, _⟩ | ⟨ad, l, c, m, n, D, Pl, hcs, _, hl, hm, hmm, _, hx⟩
  · simp only [List.cons.injEq, Value.slice.injEq, and_true] at hcs
    obtain ⟨rfl, rfl, rfl⟩ := hcs
    exact ⟨[], by simp, rfl, by omega, fun i s hs => by simp at hs⟩
  · simp only [List.cons.injEq, Value.slice.injEq, and_true] at hcs
    obtain ⟨rfl, rfl, rfl⟩ := hcs
    have hle : len ≤ m := by rw [hmm]; split <;> omega
    have hs0 : 0 < len → ad.spot = none := by
      intro hp
      obtain ⟨cs', h1, _⟩ := hx 0 (by omega)
      rw [cells_kb] at h1
      obtain ⟨_, hlen, hat⟩ := World.cells?_some h1
      have t0 := hat 0 (by decide)
      rw [List.getElem?_eq_getElem (by omega)] at t0
      have := World.cell?_spot t0
      simpa [Addr.add] using this
    have key : ∀ i, i < len → ∃ s : KB, s.key < 4294967296 ∧ ∃ b off, ad = ⟨b, off, none⟩ ∧ b < w.heap.size ∧
        w.cell? ⟨b, off + i * 2, none⟩ = some (.int .u32 (s.key : Int)) ∧ w.cell? ⟨b, off + i * 2 + 1, none⟩ = some (.int .i64 s.bit) := by
      intro i hi
      obtain ⟨cs', h1, h2⟩ := hx i (by omega)
      rw [cells_kb] at h1
      obtain ⟨_, hlen, hat⟩ := World.cells?_some h1
      obtain ⟨y0, y1, n', _, _, g0, g1⟩ := trod_struct2 Try.underlying33 h2
      match cs', hlen with
      | [c0, c1], _ =>
        simp only [cells_kb0, cells_kb1] at g0 g1
        obtain ⟨k0, e0, _, w0⟩ := DataW.trod_int Try.underlying23 g0
        obtain ⟨k1, e1, _, w1⟩ := DataW.trod_int Try.underlying3 g1
        simp at e0 e1
        subst e0 e1
        have r0 := wf_kb0 w0
        have t0 := hat 0 (by decide)
        have t1 := hat 1 (by decide)
        simp only [List.getElem?_cons_zero, List.getElem?_cons_succ] at t0 t1
        obtain ⟨b, off, spot⟩ := ad
        have hspot : spot = none := hs0 (by omega)
        subst hspot
        rw [add_plain, add_plain] at t0 t1
        obtain ⟨v0, rfl⟩ := Int.eq_ofNat_of_zero_le r0.1
        exact ⟨⟨v0, k1⟩, by simp only; omega, b, off, rfl, World.block_lt_of_cell? w _ t0, t0, t1⟩
    refine ⟨(List.range len).map fun i => if hi : i < len then Classical.choose (key i hi) else ⟨0, 0⟩, ?_, by simp, by simp only [maxLen] at hm; omega, ?_⟩
    · intro s hs
      obtain ⟨i, hi, rfl⟩ := List.mem_map.1 hs
      have hi' := List.mem_range.1 hi
      rw [dif_pos hi']
      exact (Classical.choose_spec (key i hi')).1
    · intro i s hs
      have hi' : i < len := by
        have := (List.getElem?_eq_some_iff.1 hs).1
        simpa using this
      have he : s = Classical.choose (key i hi') := by
        simp [hi'] at hs
        exact hs.symm
      obtain ⟨_, b, off, hA, hb, h0, h1⟩ := Classical.choose_spec (key i hi')
      rw [he]
      exact ⟨b, off, congrArg some hA, hb, h0, h1⟩
end Go.Proofs.Ytcilehndnbnmkaa
