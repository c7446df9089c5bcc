/- More small laws of memory: whole rows read and laid; what stays where memory grows. -/
import Derived.Test.YtclhgjjehnmncaaDoorMem
import Derived.Test.YtclhgjjehnmncaaDoorRegion2
import Derived.Laws.Rows
namespace Go.Proofs.YtclhgjjehnmncaaDoor
open Go.RowKit

section
variable {w w' : World} {g : Nat} {t : TypeId} {cs : List Value}
theorem Blk.below {B : Nat} (h : Blk w g t cs) (hb : Below B w w') (hg : g < B) : Blk w' g t cs := by
  unfold Blk
  rw [hb.block g hg]
  exact h
theorem Blk.grow (h : Blk w g t cs) (hb : Below w.heap.size w w') : Blk w' g t cs := h.below hb h.lt
theorem Blk.alloc_ (h : Blk w g t cs) (o : Obj) : Blk (w.alloc o) g t cs := by
  have hl := h.lt
  unfold Blk
  rw [show (w.alloc o).heap[g]? = w.heap[g]? by show (w.heap.push o)[g]? = _; rw [Array.getElem?_push, if_neg (Nat.ne_of_lt hl)]]
  exact h
theorem Blk.drew_ (h : Blk w g t cs) : Blk w.drew g t cs := h
theorem Blk.setOther (h : Blk w g t cs) (a : Addr) (v : Value) (hn : g ≠ a.block) : Blk (w.setCell a v) g t cs := (heap_setCell_other w a g v hn).trans h
theorem Blk.setRow_ (h : Blk w g t cs) (ds : List Value) : Blk (w.setRow g ds.toArray) g t ds := setRow_heap w g cs.toArray ds.toArray t (0, 0) h
theorem Blk.rowOther {g' : Nat} (h : Blk w g t cs) (ds : Array Value) (hn : g ≠ g') : Blk (w.setRow g' ds) g t cs := (setRow_other w g' g ds hn).trans h
theorem below_drewN {B : Nat} (h : Below B w w') (n : Nat) : Below B w (w'.drewN n) := ⟨h.os, h.tape, h.output, h.size, h.block⟩
theorem below_setRow {B : Nat} (h : Below B w w') (hg : B ≤ g) (ds : Array Value) : Below B w (w'.setRow g ds) :=
  ⟨h.os, h.tape, h.output, by rw [size_setRow]; exact h.size, fun k hk => (setRow_other w' g k ds (by omega)).trans (h.block k hk)⟩
end

theorem bvs_push (l : List UInt8) (c : Nat) : bvs (l ++ [UInt8.ofNat (c % 256)]) = bvs l ++ [Value.int .u8 ((c : Int) % 256)] := by
  have h : (UInt8.ofNat (c % 256)).toNat = c % 256 := by rw [UInt8.toNat_ofNat']; omega
  simp [bvs, h]
/-- Words as cells. -/
def wvs (l : List Nat) : List Value := l.map fun (n : Nat) => Value.int .u64 (n : Int)
theorem wvs_length (l : List Nat) : (wvs l).length = l.length := by simp [wvs]
theorem wvs_append (l m : List Nat) : wvs (l ++ m) = wvs l ++ wvs m := by simp [wvs]
theorem wvs_get (l : List Nat) (k : Nat) (h : k < l.length) : (wvs l)[k]? = some (Value.int .u64 (l[k] : Int)) := by simp [wvs, h]
theorem wvs_one (l : List Nat) : ∀ u ∈ wvs l, u.oneCell' = true := by
  intro u hu
  simp only [wvs, List.mem_map] at hu
  obtain ⟨c, _, rfl⟩ := hu
  rfl
/-- A row of words of which the first are laid. -/
def wrow (ws : List Nat) (m : Nat) : List Value := wvs ws ++ List.replicate (m - ws.length) (.int .u64 0)
theorem wrow_get (ws : List Nat) (m : Nat) (h : ws.length < m) : (wrow ws m)[ws.length]? = some (.int .u64 0) := by
  unfold wrow
  rw [List.getElem?_append_right (by rw [wvs_length]; exact Nat.le_refl _), wvs_length, Nat.sub_self, List.getElem?_replicate, if_pos (by omega)]
theorem wrow_set (ws : List Nat) (m v : Nat) (h : ws.length < m) : (wrow ws m).set ws.length (.int .u64 (v : Int)) = wrow (ws ++ [v]) m := by
  unfold wrow
  obtain ⟨d, hd⟩ : ∃ d, m - ws.length = d + 1 := ⟨m - ws.length - 1, by omega⟩
  have hd2 : m - (ws ++ [v]).length = d := by simp; omega
  rw [hd, hd2, List.replicate_succ, wvs_append]
  have := List.set_append_right (s := wvs ws) (t := .int .u64 0 :: List.replicate d (.int .u64 0)) ws.length (.int .u64 (v : Int)) (by rw [wvs_length]; exact Nat.le_refl _)
  rw [this, wvs_length, Nat.sub_self]
  simp [wvs]
theorem wrow_full (ws : List Nat) : wrow ws ws.length = wvs ws := by simp [wrow]
theorem Rd.of_blk {w : World} {g : Nat} {t : TypeId} {cs : List Value} (h : Blk w g t cs) : Rd w w.heap.size (some ⟨g, 0, none⟩) cs := fun k u hu =>
  ⟨g, 0, rfl, h.lt, by rw [Nat.zero_add, h.cell]; exact hu⟩

section
variable {P : Program} {o : Oper} {ev : Operand → Value} {w : World} {post : Value → World → Prop}
/-- A whole array, read out of its block. -/
theorem says_load_row {ty : TypeId} {x : Operand} {g : Nat} {t : TypeId} {cs : List Value} {n : Nat} {e : TypeId} (hop : o.op = .load ty x) (hx : ev x = .pointer (some ⟨g, 0, none⟩)) (hg : Blk w g t cs)
    (hu : P.underlying ty = some (.array n e)) (hi : (P.info? ty).map (·.size) = some cs.toArray.size) (hp : post (.agg cs.toArray) w) : OpSays P o ev w post := by
  have e : (execOp ev o).run P w = .ok (.value (.agg cs.toArray)) w := by
    unfold execOp
    simp only [hop, hx, Instr.loadAt, Instr.sureAddr, Sem.run_bind, Sem.run_pure, Result.andThen_ok, run_loadVar_row w g t ty cs.toArray (0, 0) _ hg hu rfl hi]
  unfold OpSays
  rw [e]
  exact hp
end

section
variable {P : Program}
/-- 'x[lo:]' of a slice of one-cell elements: what is left behind. -/
theorem run_from (w : World) (t e : TypeId) (ht : P.underlying t = some (.slice e)) (he : (P.info? e).map (·.size) = some 1) (B : Nat) (A : Option Addr) (n c lo : Nat) (xs : List Value) (h : Rd w B A xs) (hn : xs.length = n) (hnc : n ≤ c) (hlo : lo ≤ n) :
    ∃ A' c', (Instr.slice t (.slice A n c) (some (.int .i64 (lo : Int))) none none).run P w = .ok (.slice A' (n - lo) c') w ∧ n - lo ≤ c' ∧ Rd w B A' (xs.drop lo) := by
  have hel : P.elem t = e := by simp [Program.elem, ht]
  have hs : (sizeOf (P.elem t)).run P w = .ok 1 w := by
    rw [hel]
    cases hq : P.info? e with
    | none => simp [hq] at he
    | some i =>
      have : i.size = 1 := by simpa [hq] using he
      simp [sizeOf, typeInfo, hq, this]
  have hr := run_slice_l (P := P) (w := w) t A n c (by rw [hel]; exact ht) .i64 (lo : Int) (by omega) (by omega)
  rw [hs] at hr
  simp only [Result.andThen_ok, Int.toNat_natCast, sliced] at hr
  by_cases hc : c = lo
  · refine ⟨A, c - lo, ?_, by omega, ?_⟩
    · rw [hr]; simp [hc]
    · rw [List.drop_of_length_le (by omega)]
      exact Rd.nil_ _ _ _
  · refine ⟨A.map (·.add lo), c - lo, ?_, by omega, h.drop lo⟩
    rw [hr]
    simp [hc]
theorem exec_from {o : Oper} {ev : Operand → Value} {w : World} {t e : TypeId} {x y : Operand} (hop : o.op = .slice t x (some y) none none) (ht : P.underlying t = some (.slice e)) {A : Option Addr} {n c lo : Nat} (hx : ev x = .slice A n c) (hy : ev y = .int .i64 (lo : Int)) {v : Value}
    (h : (Instr.slice t (.slice A n c) (some (.int .i64 (lo : Int))) none none).run P w = .ok v w) : (execOp ev o).run P w = .ok (.value v) w := by
  have hel : P.elem t = e := by simp [Program.elem, ht]
  have hs := run_sliceAt_slice (P := P) (w := w) t (.slice A n c) (some (.int .i64 (lo : Int))) none none (by rw [hel]; exact ht)
  rw [h] at hs
  simp [execOp, hop, hx, hy, hs]
theorem says_from {o : Oper} {ev : Operand → Value} {w : World} {post : Value → World → Prop} {t e : TypeId} {x y : Operand} (hop : o.op = .slice t x (some y) none none) (ht : P.underlying t = some (.slice e)) (he : (P.info? e).map (·.size) = some 1) {B : Nat} {A : Option Addr} {n c lo : Nat} {xs : List Value}
    (hx : ev x = .slice A n c) (hy : ev y = .int .i64 (lo : Int)) (h : Rd w B A xs) (hn : xs.length = n) (hnc : n ≤ c) (hlo : lo ≤ n) (hp : ∀ A' c', n - lo ≤ c' → Rd w B A' (xs.drop lo) → post (.slice A' (n - lo) c') w) : OpSays P o ev w post := by
  obtain ⟨A', c', hr, h1, h2⟩ := run_from (P := P) w t e ht he B A n c lo xs h hn hnc hlo
  unfold OpSays
  rw [exec_from hop ht hx hy hr]
  exact hp A' c' h1 h2
theorem wpList_from {w : World} {ops : Array Oper} {rest : List Oper} {o : Oper} {a : Act} {Q : Exit → Act → World → Prop} (hgd : o.guard = none) {t e : TypeId} (x y : Operand) (hop : o.op = .slice t x (some y) none none) (ht : P.underlying t = some (.slice e)) (he : (P.info? e).map (·.size) = some 1) (B : Nat) (A : Option Addr) (n c lo : Nat) (xs : List Value)
    (hx : a.eval x = .slice A n c) (hy : a.eval y = .int .i64 (lo : Int)) (h : Rd w B A xs) (hn : xs.length = n) (hnc : n ≤ c) (hlo : lo ≤ n) (hp : ∀ A' c', n - lo ≤ c' → Rd w B A' (xs.drop lo) → wpList P ops Q rest (a.put o.dst (.slice A' (n - lo) c')) w) : wpList P ops Q (o :: rest) a w := by
  refine wpList_plain hgd fun K hK => ?_
  obtain ⟨A', c', hr, h1, h2⟩ := run_from (P := P) w t e ht he B A n c lo xs h hn hnc hlo
  unfold Oper.wp
  rw [exec_from hop ht hx hy hr]
  exact hK _ _ (hp A' c' h1 h2)
end
end Go.Proofs.YtclhgjjehnmncaaDoor
