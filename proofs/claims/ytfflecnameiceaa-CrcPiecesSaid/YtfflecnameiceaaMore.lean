/- More small laws of memory: whole rows read and laid; what stays where memory grows. -/
import Derived.Test.YtfflecnameiceaaMem
import Derived.Test.YtfflecnameiceaaRegion2
import Derived.Laws.Rows
namespace Go.Proofs.Ytfflecnameiceaa
open Go.RowKit

section
variable {w w' : World} {g : Nat} {t : TypeId} {cs : List Value}
theorem Blk.below {B : Nat} (h : Blk w g t cs) (hb : Below B w w') (hg : g < B) : Blk w' g t cs := by
  unfold Blk
  rw [hb.block g hg]
  exact h
theorem Blk.grow (h : Blk w g t cs) (hb : Below w.heap.size w w') : Blk w' g t cs := h.below hb h.lt
theorem Blk.alloc_ (h : Blk w g t cs) (o : Obj) : Blk (w.alloc o) g t cs := by
  have hl := h.lt
  unfold Blk
  rw [show (w.alloc o).heap[g]? = w.heap[g]? by show (w.heap.push o)[g]? = _; rw [Array.getElem?_push, if_neg (Nat.ne_of_lt hl)]]
  exact h
theorem Blk.drew_ (h : Blk w g t cs) : Blk w.drew g t cs := h
theorem Blk.setOther (h : Blk w g t cs) (a : Addr) (v : Value) (hn : g ≠ a.block) : Blk (w.setCell a v) g t cs := (heap_setCell_other w a g v hn).trans h
theorem Blk.setRow_ (h : Blk w g t cs) (ds : List Value) : Blk (w.setRow g ds.toArray) g t ds := setRow_heap w g cs.toArray ds.toArray t (0, 0) h
theorem Blk.rowOther {g' : Nat} (h : Blk w g t cs) (ds : Array Value) (hn : g ≠ g') : Blk (w.setRow g' ds) g t cs := (setRow_other w g' g ds hn).trans h
theorem below_drewN {B : Nat} (h : Below B w w') (n : Nat) : Below B w (w'.drewN n) := ⟨h.os, h.tape, h.output, h.size, h.block⟩
theorem below_setRow {B : Nat} (h : Below B w w') (hg : B ≤ g) (ds : Array Value) : Below B w (w'.setRow g ds) :=
  ⟨h.os, h.tape, h.output, by rw [size_setRow]; exact h.size, fun k hk => (setRow_other w' g k ds (by omega)).trans (h.block k hk)⟩
end

section
variable {P : Program} {o : Oper} {ev : Operand → Value} {w : World} {post : Value → World → Prop}
/-- A whole array, read out of its block. -/
theorem says_load_row {ty : TypeId} {x : Operand} {g : Nat} {t : TypeId} {cs : List Value} {n : Nat} {e : TypeId} (hop : o.op = .load ty x) (hx : ev x = .pointer (some ⟨g, 0, none⟩)) (hg : Blk w g t cs)
    (hu : P.underlying ty = some (.array n e)) (hi : (P.info? ty).map (·.size) = some cs.toArray.size) (hp : post (.agg cs.toArray) w) : OpSays P o ev w post := by
  have e : (execOp ev o).run P w = .ok (.value (.agg cs.toArray)) w := by
    unfold execOp
    simp only [hop, hx, Instr.loadAt, Instr.sureAddr, Sem.run_bind, Sem.run_pure, Result.andThen_ok, run_loadVar_row w g t ty cs.toArray (0, 0) _ hg hu rfl hi]
  unfold OpSays
  rw [e]
  exact hp
end
end Go.Proofs.Ytfflecnameiceaa
