/-
  Rows of numbers as cells; small laws of memory beside them; a number's list that came in. General: no code of the project. · Layer 28: the program: readPair. · Layer 28: the program: Check, First, Read. · A frame by a list of blocks.
-/
import Derived.Test.YtjignfnkcbklkaaQ04
import Derived.Test.YtjignfnkcbklkaaQ05
import Derived.Test.YtjignfnkcbklkaaProg
import Derived.Lib.Strings
import Derived.Lib.Slices
import Derived.Lib.Small
import Derived.Lib.Walk
import Derived.Deep.DeepMust
import Derived.BigQuiet
import Derived.BigRegion
import Derived.StillTailTactics
import Derived.Lib.QuietBelow
import Derived.Lib.TrailingZeros
import Derived.MapKept
import Derived.Lib.OthersKept
import Derived.Laws.RangeAny
import Derived.Laws.Rows
import Derived.OwnWalk
import Derived.Shelf.Abstract
namespace Go.Proofs.Ytjignfnkcbklkaa
open Go.RowKit Go.Sort

/-- A quiet call in a region that draws its order. -/
theorem quietOf {P : Program} {f : FuncId} {args : Array Value} {w : World} {m : Nat} {v : Value} (h : ∀ W' : World, W'.heap = w.heap → Calls P f args W' fun e w' => e = .returned v ∧ w' = W') :
    Calls P f args (w.drewN m) fun e w'' => e = .returned v ∧ ∃ j, w'' = w.drewN j := (h (w.drewN m) rfl).mono fun _ _ h => ⟨h.1, m, h.2⟩
theorem Blk.same {w w' : World} {g : Nat} {t : TypeId} {cs : List Value} (h : Blk w g t cs) (e : w'.heap = w.heap) : Blk w' g t cs := by unfold Blk; rw [e]; exact h
theorem rd_same {w w' : World} {N : Nat} {A : Option Addr} {xs : List Value} (h : Rd w N A xs) (e : w'.heap = w.heap) : Rd w' N A xs := h.keep fun p _ => World.cell?_of_block (by rw [e])
theorem blk_row {W W' : World} {row : Option Nat} {g : Nat} {t : TypeId} {cs : List Value} (h : Blk W g t cs) (hg : W.grownBy W' row) (hne : ∀ r, row = some r → r ≠ g) : Blk W' g t cs := (hg.block g h.lt (fun e => hne g e.symm rfl)).trans h
section
variable {T S : Nat} {w w' w'' : World}
end

end Go.Proofs.Ytjignfnkcbklkaa
namespace Go.Proofs.Ytjignfnkcbklkaa
open Go.RowKit Go.Sort

/-- Four numbers as cells. -/
def optC (o : List Int) : List Value := o.map fun x => .int .i64 x
end Go.Proofs.Ytjignfnkcbklkaa
namespace Go.Proofs.Ytjignfnkcbklkaa
open Go.RowKit Go.Sort

theorem set4 {w : World} {g : Nat} {t : TypeId} {u0 u1 u2 u3 : Value} (h : Blk w g t [u0, u1, u2, u3]) (v0 v1 v2 v3 : Value) : Blk ((((w.setCell ⟨g, 0, none⟩ v0).setCell ⟨g, 1, none⟩ v1).setCell ⟨g, 2, none⟩ v2).setCell ⟨g, 3, none⟩ v3) g t [v0, v1, v2, v3] :=
  (((h.set_ 0 v0).set_ 1 v1).set_ 2 v2).set_ 3 v3
theorem below4 {B g : Nat} {a w : World} (h : Below B a w) (hg : B ≤ g) (v0 v1 v2 v3 : Value) : Below B a ((((w.setCell ⟨g, 0, none⟩ v0).setCell ⟨g, 1, none⟩ v1).setCell ⟨g, 2, none⟩ v2).setCell ⟨g, 3, none⟩ v3) :=
  (((h.setCell (p := ⟨g, 0, none⟩) hg v0).setCell (p := ⟨g, 1, none⟩) hg v1).setCell (p := ⟨g, 2, none⟩) hg v2).setCell (p := ⟨g, 3, none⟩) hg v3
/-- Options, as a value, of a row of four numbers. -/
def optA (o : List Int) : Value := .agg (optC o).toArray
end Go.Proofs.Ytjignfnkcbklkaa
namespace Go.Proofs.Ytjignfnkcbklkaa
open Go.RowKit Go.Sort

/-- Of all that lay, blocks of S alone have turned. -/
structure OnlyS (S : List Nat) (w w' : World) : Prop where
  os : w'.os = w.os
  tape : w'.tape = w.tape
  output : w'.output = w.output
  size : w.heap.size ≤ w'.heap.size
  block : ∀ k, k < w.heap.size → k ∉ S → w'.heap[k]? = w.heap[k]?
section
variable {S T : List Nat} {w w' w'' : World}
theorem OnlyS.refl (S : List Nat) (w : World) : OnlyS S w w := ⟨rfl, rfl, rfl, Nat.le_refl _, fun _ _ _ => rfl⟩
theorem OnlyS.trans (h : OnlyS S w w') (k : OnlyS S w' w'') : OnlyS S w w'' :=
  ⟨k.os.trans h.os, k.tape.trans h.tape, k.output.trans h.output, Nat.le_trans h.size k.size, fun i hi h1 => (k.block i (Nat.lt_of_lt_of_le hi h.size) h1).trans (h.block i hi h1)⟩
theorem OnlyS.drew (h : OnlyS S w w') : OnlyS S w w'.drew := ⟨h.os, h.tape, h.output, h.size, h.block⟩
theorem OnlyS.drewN (h : OnlyS S w w') (j : Nat) : OnlyS S w (w'.drewN j) := ⟨h.os, h.tape, h.output, h.size, h.block⟩
theorem OnlyS.of_below (h : Below w.heap.size w w') : OnlyS S w w' := ⟨h.os, h.tape, h.output, h.size, fun k hk _ => h.block k hk⟩
theorem OnlyS.set_ (h : OnlyS S w w') {p : Addr} (hp : p.block ∈ S) (v : Value) : OnlyS S w (w'.setCell p v) :=
  ⟨h.os, h.tape, h.output, Nat.le_trans h.size (by simp [World.setCell]), fun k hk h1 => (Below.heap_setCell _ _ _ k (fun e => h1 (e ▸ hp))).trans (h.block k hk h1)⟩
theorem OnlyS.below {B : Nat} (h : OnlyS S w w') (hS : ∀ k ∈ S, B ≤ k) (hB : B ≤ w.heap.size) : Below B w w' :=
  ⟨h.os, h.tape, h.output, h.size, fun k hk => h.block k (by omega) fun h1 => by have := hS k h1; omega⟩
theorem OnlyS.blk {g : Nat} {t : TypeId} {cs : List Value} (h : OnlyS S w w') (hb : Blk w g t cs) (h1 : g ∉ S) : Blk w' g t cs := (h.block g hb.lt h1).trans hb
end
end Go.Proofs.Ytjignfnkcbklkaa
