/- A frame by a list of blocks. -/
import Derived.Test.YtcjjlkfenlmmlaaInts
namespace Go.Proofs.Ytcjjlkfenlmmlaa
open Go.RowKit Go.Sort

/-- Of all that lay, blocks of S alone have turned. -/
structure OnlyS (S : List Nat) (w w' : World) : Prop where
  os : w'.os = w.os
  tape : w'.tape = w.tape
  output : w'.output = w.output
  size : w.heap.size ≤ w'.heap.size
  block : ∀ k, k < w.heap.size → k ∉ S → w'.heap[k]? = w.heap[k]?
section
variable {S T : List Nat} {w w' w'' : World}
theorem OnlyS.refl (S : List Nat) (w : World) : OnlyS S w w := ⟨rfl, rfl, rfl, Nat.le_refl _, fun _ _ _ => rfl⟩
theorem OnlyS.trans (h : OnlyS S w w') (k : OnlyS S w' w'') : OnlyS S w w'' :=
  ⟨k.os.trans h.os, k.tape.trans h.tape, k.output.trans h.output, Nat.le_trans h.size k.size, fun i hi h1 => (k.block i (Nat.lt_of_lt_of_le hi h.size) h1).trans (h.block i hi h1)⟩
theorem OnlyS.mono (h : OnlyS S w w') (hs : ∀ k ∈ S, k ∈ T) : OnlyS T w w' := ⟨h.os, h.tape, h.output, h.size, fun i hi h1 => h.block i hi fun h2 => h1 (hs i h2)⟩
theorem OnlyS.drew (h : OnlyS S w w') : OnlyS S w w'.drew := ⟨h.os, h.tape, h.output, h.size, h.block⟩
theorem OnlyS.drewN (h : OnlyS S w w') (j : Nat) : OnlyS S w (w'.drewN j) := ⟨h.os, h.tape, h.output, h.size, h.block⟩
theorem OnlyS.of_below (h : Below w.heap.size w w') : OnlyS S w w' := ⟨h.os, h.tape, h.output, h.size, fun k hk _ => h.block k hk⟩
theorem OnlyS.of_turns {g : Nat} (h : TurnsB g g w w') (hg : g ∈ S) : OnlyS S w w' :=
  ⟨h.os, h.tape, h.output, h.size, fun k hk h1 => have e : k ≠ g := fun e => h1 (e ▸ hg); h.block k hk e e⟩
theorem OnlyS.set_ (h : OnlyS S w w') {p : Addr} (hp : p.block ∈ S) (v : Value) : OnlyS S w (w'.setCell p v) :=
  ⟨h.os, h.tape, h.output, Nat.le_trans h.size (by simp [World.setCell]), fun k hk h1 => (Below.heap_setCell _ _ _ k (fun e => h1 (e ▸ hp))).trans (h.block k hk h1)⟩
theorem OnlyS.below {B : Nat} (h : OnlyS S w w') (hS : ∀ k ∈ S, B ≤ k) (hB : B ≤ w.heap.size) : Below B w w' :=
  ⟨h.os, h.tape, h.output, h.size, fun k hk => h.block k (by omega) fun h1 => by have := hS k h1; omega⟩
theorem OnlyS.blk {g : Nat} {t : TypeId} {cs : List Value} (h : OnlyS S w w') (hb : Blk w g t cs) (h1 : g ∉ S) : Blk w' g t cs := (h.block g hb.lt h1).trans hb
end
end Go.Proofs.Ytcjjlkfenlmmlaa
