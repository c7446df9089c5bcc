/- A slice of slices of bytes that came in. -/
import Derived.Test.YtfflecnameiceaaArg
import Derived.Deep.Matrix
namespace Go.Proofs.Ytfflecnameiceaa
open Go.RowKit

/-- A slice of bytes, and the bytes. -/
structure BRow where
  A : Option Addr
  n : Nat
  c : Nat
  l : List UInt8
def BRow.val (r : BRow) : Value := .slice r.A r.n r.c
/-- It can be read. -/
def BRow.ok (w : World) (B : Nat) (r : BRow) : Prop := r.l.length = r.n ∧ r.n ≤ r.c ∧ r.c ≤ 9223372036854775807 ∧ Rd w B r.A (bvs r.l)
/-- Slices of bytes can be read from A on. -/
def RdRows (w : World) (B : Nat) (A : Option Addr) (rs : List BRow) : Prop := Rd w B A (rs.map BRow.val) ∧ ∀ r ∈ rs, r.ok w B
theorem RdRows.below {w w' : World} {B : Nat} {A : Option Addr} {rs : List BRow} (h : RdRows w B A rs) (hb : Below B w w') : RdRows w' B A rs :=
  ⟨h.1.below hb, fun r hr => ⟨(h.2 r hr).1, (h.2 r hr).2.1, (h.2 r hr).2.2.1, (h.2 r hr).2.2.2.below hb⟩⟩
theorem RdRows.more {w : World} {B B' : Nat} {A : Option Addr} {rs : List BRow} (h : RdRows w B A rs) (hb : B ≤ B') : RdRows w B' A rs :=
  ⟨h.1.more hb, fun r hr => ⟨(h.2 r hr).1, (h.2 r hr).2.1, (h.2 r hr).2.2.1, (h.2 r hr).2.2.2.more hb⟩⟩

section
variable {P : Program} {H : Type} {enc : TypeId × Value → H} {w : World} {base : Nat} {held : Bool}
theorem rows_of {t e q : TypeId} {fuel : Nat} {a : Option Addr} {len cap : Nat} {x : DataW H × List MemPlace} (ht : P.underlying t = some (.slice e)) (he : P.underlying e = some (.slice q)) (hq : P.underlying q = some (.int .u8))
    (ce : P.cellsOf e = 1) (cq : P.cellsOf q = 1) (h : DataW.trod enc P w base (fun _ => true) held fuel t [.slice a len cap] = some x) :
    ∃ rs : List BRow, rs.length = len ∧ len ≤ 9223372036854775807 ∧ RdRows w w.heap.size a rs := by
  rcases Deep.open_int_rows ht he hq ce cq h with ⟨hcs, _⟩ | ⟨ad, l, c, A, L, C, Z, hcs, _, hl, hm, _, hrow⟩
  · simp at hcs
    obtain ⟨rfl, rfl, rfl⟩ := hcs
    exact ⟨[], rfl, by omega, Rd.nil_ _ _ _, fun _ h => by simp at h⟩
  · simp at hcs
    obtain ⟨rfl, rfl, rfl⟩ := hcs
    simp only [maxLen] at hm
    have each : ∀ r, r < cap → ∃ b : BRow, b.val = .slice (A r) (L r) (C r) ∧ b.ok w w.heap.size := by
      intro r hr
      obtain ⟨_, hLC, hCm, hZ, hwf, hnil, hcell⟩ := hrow r hr
      have := rd_of_row (w := w) (a := A r) (len := L r) (cap := C r) (zs := Z r) (by
        cases hA : A r with
        | none =>
          have h0 := hnil hA
          refine .inl ⟨rfl, by omega, h0, ?_⟩
          rw [h0] at hZ
          exact List.length_eq_zero_iff.1 hZ
        | some a' => exact .inr ⟨a', rfl, hLC, hCm, hZ, fun i hi => (hcell a' hA).2 i (by omega), hwf⟩)
      obtain ⟨l, h1, h2, h3, h4⟩ := this
      exact ⟨⟨A r, L r, C r, l⟩, rfl, h1, h2, h3, h4⟩
    have pick : ∀ n, n ≤ cap → ∃ rs : List BRow, rs.length = n ∧ (∀ r, r < n → ∃ b, rs[r]? = some b ∧ b.val = .slice (A r) (L r) (C r)) ∧ ∀ b ∈ rs, b.ok w w.heap.size := by
      intro n
      induction n with
      | zero => intro _; exact ⟨[], rfl, fun r h => by omega, fun b h => by simp at h⟩
      | succ n ih =>
        intro hn
        obtain ⟨rs, h1, h2, h3⟩ := ih (by omega)
        obtain ⟨b, hb1, hb2⟩ := each n (by omega)
        refine ⟨rs ++ [b], by simp [h1], fun r hr => ?_, fun x hx => ?_⟩
        · by_cases e : r = n
          · subst e
            exact ⟨b, by simp [← h1], hb1⟩
          · obtain ⟨b', g1, g2⟩ := h2 r (by omega)
            exact ⟨b', by rw [List.getElem?_append_left (by omega)]; exact g1, g2⟩
        · rcases List.mem_append.1 hx with g | g
          · exact h3 x g
          · simp at g; subst g; exact hb2
    obtain ⟨rs, h1, h2, h3⟩ := pick len (by omega)
    refine ⟨rs, h1, by omega, fun k u hu => ?_, h3⟩
    rw [List.getElem?_map] at hu
    have hk : k < len := by
      rcases Nat.lt_or_ge k len with g | g
      · exact g
      · rw [List.getElem?_eq_none (by omega)] at hu; simp at hu
    obtain ⟨b, g1, g2⟩ := h2 k hk
    rw [g1] at hu
    injection hu with hu
    subst hu
    have hc := (hrow k (by omega)).1
    rw [g2]
    obtain ⟨b0, o0, p0⟩ := ad
    have hspot : p0 = none := by
      have h0 := World.cell?_spot (hrow 0 (by omega)).1
      simpa [Addr.add] using h0
    subst hspot
    rw [Addr.add_lit] at hc
    exact ⟨b0, o0, rfl, World.block_lt_of_cell? w _ hc, hc⟩
end
end Go.Proofs.Ytfflecnameiceaa
