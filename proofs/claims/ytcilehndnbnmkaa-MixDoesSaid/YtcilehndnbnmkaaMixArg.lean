/- A slice of steps of a slice of numbers and a bit that came in. -/
import Derived.Test.YtcilehndnbnmkaaInts
import Derived.ChangeSame
import Derived.Deep.Slices
import Derived.Deep.Strs
import Derived.Lib.SmallJoins
import Derived.OpenShut
namespace Go.Proofs.Ytcilehndnbnmkaa
open Go.RowKit Go.ChangeShapes Go.WideShapes Go.Deep Go.Joins

/-- Numbers in a slice, and a bit. -/
structure LB where
  A : Option Addr
  n : Nat
  c : Nat
  l : List Int
  bit : Int
/-- The numbers of a step can be read. -/
def LB.ok (w : World) (B : Nat) (s : LB) : Prop := s.l.length = s.n ∧ s.n ≤ 9223372036854775807 ∧ Rd w B s.A (zvs s.l)
/-- The steps ss lie from address A on, below block B. -/
def RdLB (w : World) (B : Nat) (A : Option Addr) (ss : List LB) : Prop :=
  ∀ i s, ss[i]? = some s → s.ok w B ∧ ∃ b off, A = some ⟨b, off, none⟩ ∧ b < B ∧
    w.cell? ⟨b, off + i * 2, none⟩ = some (.slice s.A s.n s.c) ∧ w.cell? ⟨b, off + i * 2 + 1, none⟩ = some (.int .i64 s.bit)
theorem LB.ok.below {w w' : World} {B : Nat} {s : LB} (h : s.ok w B) (hb : Below B w w') : s.ok w' B := ⟨h.1, h.2.1, h.2.2.below hb⟩
theorem RdLB.below {w w' : World} {B : Nat} {A : Option Addr} {ss : List LB} (h : RdLB w B A ss) (hb : Below B w w') : RdLB w' B A ss := fun i s hs => by
  obtain ⟨h0, b, off, e, hlt, h1, h2⟩ := h i s hs
  exact ⟨h0.below hb, b, off, e, hlt, (hb.cell (p := ⟨b, _, none⟩) hlt).trans h1, (hb.cell (p := ⟨b, _, none⟩) hlt).trans h2⟩
theorem cells_lb : Try.prog.cellsOf 45 = 2 := by kernel_rfl
theorem cells_lb0 : Try.prog.cellsOf 41 = 1 := by kernel_rfl
theorem cells_lb1 : Try.prog.cellsOf 3 = 1 := by kernel_rfl

theorem intsD_of {H : Type} {enc : TypeId × Value → H} {w : World} {base : Nat} {spare : Nat → Bool} {held : Bool} {fuel : Nat} {v : Value} {x : DataW H × List MemPlace}
    (h : DataW.trod enc Try.prog w base spare held fuel 41 [v] = some x) :
    ∃ A n c l, v = .slice A n c ∧ l.length = n ∧ n ≤ 9223372036854775807 ∧ Rd w w.heap.size A (zvs l) := by
  rcases open_slice Try.underlying41 h with ⟨hcs, _⟩ | ⟨ad, l, c, m, n, D, Pl, hcs, _, hl, hm, hmm, _, hx⟩
  · simp only [List.cons.injEq, and_true] at hcs
    exact ⟨none, 0, 0, [], hcs, rfl, by omega, Rd.nil_ _ _ _⟩
  · simp only [List.cons.injEq, and_true] at hcs
    have hle : l ≤ m := by rw [hmm]; split <;> omega
    have hs0 : 0 < l → ad.spot = none := by
      intro hp
      obtain ⟨cs', h1, _⟩ := hx 0 (by omega)
      rw [cells_lb1] at h1
      obtain ⟨_, hlen, hat⟩ := World.cells?_some h1
      have t0 := hat 0 (by decide)
      rw [List.getElem?_eq_getElem (by omega)] at t0
      have := World.cell?_spot t0
      simpa [Addr.add] using this
    have key : ∀ i, i < l → ∃ z : Int, ∃ b off, ad = ⟨b, off, none⟩ ∧ b < w.heap.size ∧ w.cell? ⟨b, off + i, none⟩ = some (.int .i64 z) := by
      intro i hi
      obtain ⟨cs', h1, h2⟩ := hx i (by omega)
      rw [cells_lb1] at h1
      obtain ⟨_, hlen, hat⟩ := World.cells?_some h1
      match cs', hlen with
      | [c0], _ =>
        obtain ⟨k0, e0, _, w0⟩ := DataW.trod_int Try.underlying3 h2
        simp at e0
        subst e0
        have t0 := hat 0 (by decide)
        simp only [List.getElem?_cons_zero] at t0
        obtain ⟨b, off, spot⟩ := ad
        have hspot : spot = none := hs0 (by omega)
        subst hspot
        rw [add_plain, add_plain] at t0
        refine ⟨k0, b, off, rfl, World.block_lt_of_cell? w _ t0, ?_⟩
        simpa using t0
    refine ⟨some ad, l, c, (List.range l).map fun i => if hi : i < l then Classical.choose (key i hi) else 0, hcs, by simp, by simp only [maxLen] at hm; omega, ?_⟩
    intro i u hu
    have hi' : i < l := by
      have := (List.getElem?_eq_some_iff.1 hu).1
      simpa [zvs] using this
    have he : u = .int .i64 (Classical.choose (key i hi')) := by
      simp [zvs, hi'] at hu
      exact hu.symm
    obtain ⟨b, off, hA, hb, h0⟩ := Classical.choose_spec (key i hi')
    rw [he]
    exact ⟨b, off, congrArg some hA, hb, h0⟩

theorem stepsLB_of {H : Type} {enc : TypeId × Value → H} {w : World} {base : Nat} {spare : Nat → Bool} {held : Bool} {fuel len cap : Nat} {a : Option Addr} {x : DataW H × List MemPlace}
    (h : DataW.trod enc Try.prog w base spare held fuel 36 [.slice a len cap] = some x) :
    ∃ ss : List LB, ss.length = len ∧ len ≤ 9223372036854775807 ∧ RdLB w w.heap.size a ss := by
  rcases open_slice Try.underlying36 h with ⟨hcs, _⟩ | ⟨ad, l, c, m, n, D, Pl, hcs, _, hl, hm, hmm, _, hx⟩
  · simp only [List.cons.injEq, Value.slice.injEq, and_true] at hcs
    obtain ⟨rfl, rfl, rfl⟩ := hcs
    exact ⟨[], rfl, by omega, fun i s hs => by simp at hs⟩
  · simp only [List.cons.injEq, Value.slice.injEq, and_true] at hcs
    obtain ⟨rfl, rfl, rfl⟩ := hcs
    have hle : len ≤ m := by rw [hmm]; split <;> omega
    have hs0 : 0 < len → ad.spot = none := by
      intro hp
      obtain ⟨cs', h1, _⟩ := hx 0 (by omega)
      rw [cells_lb] at h1
      obtain ⟨_, hlen, hat⟩ := World.cells?_some h1
      have t0 := hat 0 (by decide)
      rw [List.getElem?_eq_getElem (by omega)] at t0
      have := World.cell?_spot t0
      simpa [Addr.add] using this
    have key : ∀ i, i < len → ∃ s : LB, s.ok w w.heap.size ∧ ∃ b off, ad = ⟨b, off, none⟩ ∧ b < w.heap.size ∧
        w.cell? ⟨b, off + i * 2, none⟩ = some (.slice s.A s.n s.c) ∧ w.cell? ⟨b, off + i * 2 + 1, none⟩ = some (.int .i64 s.bit) := by
      intro i hi
      obtain ⟨cs', h1, h2⟩ := hx i (by omega)
      rw [cells_lb] at h1
      obtain ⟨_, hlen, hat⟩ := World.cells?_some h1
      obtain ⟨y0, y1, n', _, _, g0, g1⟩ := trod_struct2 Try.underlying45 h2
      match cs', hlen with
      | [c0, c1], _ =>
        simp only [cells_lb0, cells_lb1] at g0 g1
        obtain ⟨A, k, c, l, hc0, hll, hk, hrd⟩ := intsD_of (v := c0) (by simpa using g0)
        obtain ⟨k1, e1, _, w1⟩ := DataW.trod_int Try.underlying3 g1
        simp at e1
        subst e1 hc0
        have t0 := hat 0 (by decide)
        have t1 := hat 1 (by decide)
        simp only [List.getElem?_cons_zero, List.getElem?_cons_succ] at t0 t1
        obtain ⟨b, off, spot⟩ := ad
        have hspot : spot = none := hs0 (by omega)
        subst hspot
        rw [add_plain, add_plain] at t0 t1
        exact ⟨⟨A, k, c, l, k1⟩, ⟨hll, hk, hrd⟩, b, off, rfl, World.block_lt_of_cell? w _ t0, t0, t1⟩
    refine ⟨(List.range len).map fun i => if hi : i < len then Classical.choose (key i hi) else ⟨none, 0, 0, [], 0⟩, by simp, by simp only [maxLen] at hm; omega, ?_⟩
    intro i s hs
    have hi' : i < len := by
      have := (List.getElem?_eq_some_iff.1 hs).1
      simpa using this
    have he : s = Classical.choose (key i hi') := by
      simp [hi'] at hs
      exact hs.symm
    obtain ⟨h0, b, off, hA, hb, h1, h2⟩ := Classical.choose_spec (key i hi')
    rw [he]
    exact ⟨h0, b, off, congrArg some hA, hb, h1, h2⟩
end Go.Proofs.Ytcilehndnbnmkaa
