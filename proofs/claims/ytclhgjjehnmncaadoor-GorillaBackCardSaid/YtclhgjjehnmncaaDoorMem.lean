/- Memory told by types: what is turned lies in blocks of named types, from a base on; so an object of another type stays. -/
import Derived.Test.YtclhgjjehnmncaaDoorBase
namespace Go.Proofs.YtclhgjjehnmncaaDoor
open Go.RowKit

/-- Block g is just these cells of type t. -/
def Blk (w : World) (g : Nat) (t : TypeId) (cs : List Value) : Prop := w.heap[g]? = some (.cells cs.toArray t (0, 0))
/-- Block k is one of cells of type t. -/
def OfType (w : World) (k : Nat) (t : TypeId) : Prop := ∃ cs fr, w.heap[k]? = some (.cells cs t fr)

theorem Blk.lt {w : World} {g : Nat} {t : TypeId} {cs : List Value} (h : Blk w g t cs) : g < w.heap.size := (Array.getElem?_eq_some_iff.1 h).1
theorem Blk.cell {w : World} {g : Nat} {t : TypeId} {cs : List Value} (h : Blk w g t cs) (i : Nat) : w.cell? ⟨g, i, none⟩ = cs[i]? := by
  have := cell_of_row w g i cs.toArray t (0, 0) h
  rw [this]; simp
theorem Blk.frozen {w : World} {g : Nat} {t : TypeId} {cs : List Value} (h : Blk w g t cs) (i : Nat) : w.frozen? ⟨g, i, none⟩ = false := frozen_of_row w g i cs.toArray t h
theorem Blk.set_ {w : World} {g : Nat} {t : TypeId} {cs : List Value} (h : Blk w g t cs) (i : Nat) (u : Value) : Blk (w.setCell ⟨g, i, none⟩ u) g t (cs.set i u) := by
  have := heap_setCell_same w g i cs.toArray t u h
  unfold Blk
  rw [this]
  simp
theorem Blk.ofType {w : World} {g : Nat} {t : TypeId} {cs : List Value} (h : Blk w g t cs) : OfType w g t := ⟨_, _, h⟩
theorem OfType.ne {w : World} {k : Nat} {t t' : TypeId} (h : OfType w k t) (hne : t ≠ t') : ¬ OfType w k t' := by
  rintro ⟨cs, fr, h'⟩
  obtain ⟨cs0, fr0, h⟩ := h
  rw [h] at h'
  injection h' with h'
  injection h' with _ e _
  exact hne e

/-- From w to w' only blocks of the types ts are turned, and none below B. -/
structure OnlyT (B : Nat) (ts : List TypeId) (w w' : World) : Prop where
  os : w'.os = w.os
  tape : w'.tape = w.tape
  output : w'.output = w.output
  size : w.heap.size ≤ w'.heap.size
  block : ∀ k, k < w.heap.size → (k < B ∨ ∀ t ∈ ts, ¬ OfType w k t) → w'.heap[k]? = w.heap[k]?

section
variable {B : Nat} {ts : List TypeId} {w w' w'' : World}
theorem OnlyT.refl (B : Nat) (ts : List TypeId) (w : World) : OnlyT B ts w w := ⟨rfl, rfl, rfl, Nat.le_refl _, fun _ _ _ => rfl⟩
theorem OnlyT.trans (h : OnlyT B ts w w') (h' : OnlyT B ts w' w'') : OnlyT B ts w w'' :=
  ⟨h'.os.trans h.os, h'.tape.trans h.tape, h'.output.trans h.output, Nat.le_trans h.size h'.size, fun k hk hn => by
    have e := h.block k hk hn
    refine (h'.block k (Nat.lt_of_lt_of_le hk h.size) ?_).trans e
    rcases hn with hn | hn
    · exact .inl hn
    · refine .inr fun t ht ho => hn t ht ?_
      obtain ⟨cs, fr, ho⟩ := ho
      exact ⟨cs, fr, e ▸ ho⟩⟩
theorem OnlyT.drew (h : OnlyT B ts w w') : OnlyT B ts w w'.drew := ⟨h.os, h.tape, h.output, h.size, h.block⟩
theorem OnlyT.drewN (h : OnlyT B ts w w') (n : Nat) : OnlyT B ts w (w'.drewN n) := ⟨h.os, h.tape, h.output, h.size, h.block⟩
theorem OnlyT.of_below (hb : Below w.heap.size w w') : OnlyT B ts w w' := ⟨hb.os, hb.tape, hb.output, hb.size, fun k hk _ => hb.block k hk⟩
theorem OnlyT.more {ts' : List TypeId} (h : OnlyT B ts w w') (hs : ∀ t ∈ ts, t ∈ ts') : OnlyT B ts' w w' :=
  ⟨h.os, h.tape, h.output, h.size, fun k hk hn => h.block k hk (hn.imp id fun g t ht => g t (hs t ht))⟩
theorem OnlyT.base {B' : Nat} (h : OnlyT B ts w w') (hb : B' ≤ B) : OnlyT B' ts w w' :=
  ⟨h.os, h.tape, h.output, h.size, fun k hk hn => h.block k hk (hn.imp (fun g => by omega) id)⟩
theorem OnlyT.below (h : OnlyT B ts w w') (hB : B ≤ w.heap.size) : Below B w w' := ⟨h.os, h.tape, h.output, h.size, fun k hk => h.block k (by omega) (.inl hk)⟩
theorem OnlyT.set_ {g i : Nat} {t : TypeId} {cs : List Value} (h : Blk w g t cs) (hg : B ≤ g) (u : Value) (ht : t ∈ ts) : OnlyT B ts w (w.setCell ⟨g, i, none⟩ u) :=
  ⟨rfl, rfl, rfl, by simp [World.setCell], fun k _ hn => Below.heap_setCell w _ u k (fun e => by
    subst e
    rcases hn with hn | hn
    · exact absurd hn (by simp; omega)
    · exact hn t ht h.ofType)⟩
theorem OnlyT.grown {row : Option Nat} {e : TypeId} (hg : w.grownBy w' row) (hr : ∀ k, row = some k → B ≤ k ∧ OfType w k e) (he : e ∈ ts) : OnlyT B ts w w' :=
  ⟨hg.os, hg.tape, hg.output, hg.size, fun k hk hn => hg.block k hk (fun e' => by
    obtain ⟨h1, h2⟩ := hr k e'.symm
    rcases hn with hn | hn
    · omega
    · exact hn e he h2)⟩
theorem own_type {base : Nat} {e : TypeId} {size n : Nat} {v : Value} {xs : List Value} (h : w.ownsRow base e size v n xs) : ∀ k, v.ownBlock = some k → base ≤ k ∧ OfType w k e := by
  intro k hk
  rcases h.2 with ⟨rfl, _⟩ | ⟨g, cap, cur, rfl, hb, hg, _⟩
  · simp [Value.ownBlock] at hk
  · simp [Value.ownBlock] at hk
    subst hk
    exact ⟨hb, _, _, hg⟩
theorem Blk.only {g : Nat} {t : TypeId} {cs : List Value} (h : Blk w g t cs) (ho : OnlyT B ts w w') (ht : t ∉ ts) : Blk w' g t cs :=
  (ho.block g h.lt (.inr fun _ ht' h' => h.ofType.ne (fun e => ht (e ▸ ht')) h')).trans h
theorem own_only {base : Nat} {e : TypeId} {size n : Nat} {v : Value} {xs : List Value} (h : w.ownsRow base e size v n xs) (ho : OnlyT B ts w w') (ht : e ∉ ts) : w'.ownsRow base e size v n xs := by
  refine ⟨h.1, ?_⟩
  rcases h.2 with h0 | ⟨g, cap, cur, rfl, hbg, hg, rest⟩
  · exact .inl h0
  · exact .inr ⟨g, cap, cur, rfl, hbg, (ho.block g (Array.getElem?_eq_some_iff.1 hg).1 (.inr fun _ ht' h' => (show OfType w g e from ⟨_, _, hg⟩).ne (fun e' => ht (e' ▸ ht')) h')).trans hg, rest⟩
/-- cells of blocks of a type can be read on -/
def RdT (w : World) (e : TypeId) (A : Option Addr) (xs : List Value) : Prop :=
  ∀ k u, xs[k]? = some u → ∃ b off, A = some ⟨b, off, none⟩ ∧ OfType w b e ∧ w.cell? ⟨b, off + k, none⟩ = some u
theorem OfType.lt {k : Nat} {t : TypeId} (h : OfType w k t) : k < w.heap.size := by
  obtain ⟨cs, fr, h⟩ := h
  exact (Array.getElem?_eq_some_iff.1 h).1
theorem RdT.rd {e : TypeId} {A : Option Addr} {xs : List Value} (h : RdT w e A xs) : Rd w w.heap.size A xs := fun k u hu => by
  obtain ⟨b, off, h1, h2, h3⟩ := h k u hu
  exact ⟨b, off, h1, h2.lt, h3⟩
theorem RdT.only {e : TypeId} {A : Option Addr} {xs : List Value} (h : RdT w e A xs) (ho : OnlyT B ts w w') (ht : e ∉ ts) : RdT w' e A xs := fun k u hu => by
  obtain ⟨b, off, h1, h2, h3⟩ := h k u hu
  have hb := ho.block b h2.lt (.inr fun _ ht' h' => h2.ne (fun e' => ht (e' ▸ ht')) h')
  refine ⟨b, off, h1, ?_, (World.cell?_of_block (w := w) (a := ⟨b, off + k, none⟩) hb).trans h3⟩
  obtain ⟨cs, fr, h2⟩ := h2
  exact ⟨cs, fr, hb.trans h2⟩
theorem RdT.of_own {base e size n : Nat} {A : Option Addr} {c : Nat} {xs : List Value} (h : w.ownsRow base e size (.slice A n c) n xs) : RdT w e A xs := fun k u hu => by
  have hk : k < xs.length := (List.getElem?_eq_some_iff.1 hu).1
  rcases h.2 with ⟨h0, h1⟩ | ⟨g, cap, cur, h0, hb, hg, _⟩
  · subst h1; have h2 := h.1; simp at h2; subst h2; simp at hk
  · have hA : A = some ⟨g, 0, none⟩ := by injection h0
    subst hA
    exact ⟨g, 0, rfl, ⟨_, _, hg⟩, by have := h.cells (g := g) rfl k u hu; rwa [Addr.add_lit] at this⟩
theorem RdT.drop {e : TypeId} {A : Option Addr} {xs : List Value} (h : RdT w e A xs) (n : Nat) : RdT w e (A.map (·.add n)) (xs.drop n) := fun k u hu => by
  rw [List.getElem?_drop] at hu
  obtain ⟨b, off, rfl, hb, hc⟩ := h _ u hu
  exact ⟨b, off + n, by simp [Addr.add_lit], hb, by rw [Nat.add_assoc]; exact hc⟩
end
end Go.Proofs.YtclhgjjehnmncaaDoor
