/- Contracts of layer 11: the map of steps. -/
import Derived.Test.YtcenbaajojdjlaaDoorRecBits
import Derived.MapKept
import Derived.Carry
import Derived.Maps.Own
import Derived.Laws.EntriesVeiled
namespace Go.Proofs.YtcenbaajojdjlaaDoor
open Go.RowKit Go.Shelf

/-- A map's entries, whose keys are the numbers behind i in order. -/
def kEnts : List Value → Nat → List MapEntry
  | [], _ => []
  | v :: t, i => ⟨.int .i64 ((i + 1 : Nat) : Int), v, i⟩ :: kEnts t (i + 1)
/-- Block b is a map of these values by the numbers from 1 on. -/
def MapIs (w : World) (b : Nat) (vs : List Value) : Prop := w.heap[b]? = some (.map (kEnts vs 0).toArray vs.length)
theorem kEnts_len : ∀ (vs : List Value) (i : Nat), (kEnts vs i).length = vs.length
  | [], _ => rfl
  | v :: t, i => by simp [kEnts, kEnts_len t]
theorem kEnts_snoc : ∀ (vs : List Value) (i : Nat) (v : Value), kEnts (vs ++ [v]) i = kEnts vs i ++ [⟨.int .i64 ((i + vs.length + 1 : Nat) : Int), v, i + vs.length⟩]
  | [], i, v => by simp [kEnts]
  | u :: t, i, v => by
    simp only [List.cons_append, kEnts, kEnts_snoc t, List.length_cons]
    rw [show i + 1 + t.length = i + (t.length + 1) by omega]
theorem kEnts_new : ∀ (vs : List Value) (i j m : Nat), i + vs.length ≤ m → Instr.findNow (.int .i64) (.int .i64 ((m + 1 : Nat) : Int)) (kEnts vs i) j = some none
  | [], _, _, _, _ => rfl
  | v :: t, i, j, m, h => by
    have hne : ((((m + 1 : Nat) : Int)) == ((i + 1 : Nat) : Int)) = false := by
      rw [beq_eq_false_iff_ne]
      simp only [List.length_cons] at h
      omega
    simp only [kEnts, Instr.findNow, Instr.sameNow, if_true, hne]
    exact kEnts_new t (i + 1) (j + 1) m (by simp only [List.length_cons] at h; omega)
theorem kEnts_find : ∀ (vs : List Value) (i j k : Nat) (v : Value), vs[k]? = some v → Instr.findNow (.int .i64) (.int .i64 ((i + k + 1 : Nat) : Int)) (kEnts vs i) j = some (some (j + k, v))
  | [], _, _, _, _, h => by simp at h
  | u :: t, i, j, 0, v, h => by
    simp at h
    subst h
    simp [kEnts, Instr.findNow, Instr.sameNow]
  | u :: t, i, j, k + 1, v, h => by
    have hne : ((((i + (k + 1) + 1 : Nat) : Int)) == ((i + 1 : Nat) : Int)) = false := by
      rw [beq_eq_false_iff_ne]
      omega
    have h2 := kEnts_find t (i + 1) (j + 1) k v (by simpa using h)
    simp only [kEnts, Instr.findNow, Instr.sameNow, if_true, hne]
    rw [show i + (k + 1) + 1 = i + 1 + k + 1 by omega, h2, show j + 1 + k = j + (k + 1) by omega]
section
variable {P : Program}
theorem run_put_new (w : World) (t k e : TypeId) (ht : P.underlying t = some (.map k e)) (hk : P.underlying k = some (.int .i64)) (b : Nat) (es : Array MapEntry) (clock : Nat) (hb : w.heap[b]? = some (.map es clock)) (key : Int) (val : Value)
    (hf : Instr.findNow (.int .i64) (.int .i64 key) es.toList 0 = some none) :
    (Instr.mapUpdate t (.map (some b)) (.int .i64 key) val).run P w = .ok () { w with heap := w.heap.setIfInBounds b (.map (es.push ⟨.int .i64 key, val, clock⟩) (clock + 1)) } := by
  have hc : (Instr.checkKey false 10000 k (.int .i64 key)).run P w = .ok () w := MapKept.run_checkKey (k := .int .i64 key) hk (by simp [MapKept.IsKey]) false 9999
  simp [Instr.mapUpdate, run_underlying ht, MapKept.run_getObj_map hb, hc, MapKept.run_findKey hk hf, MapKept.run_setObj_map _ hb, Result.andThen]
theorem run_get_old (w : World) (t k e : TypeId) (ht : P.underlying t = some (.map k e)) (hk : P.underlying k = some (.int .i64)) (b : Nat) (es : Array MapEntry) (clock : Nat) (hb : w.heap[b]? = some (.map es clock)) (key : Int) (j : Nat) (v : Value)
    (hf : Instr.findNow (.int .i64) (.int .i64 key) es.toList 0 = some (some (j, v))) :
    (Instr.lookup t (.map (some b)) (.int .i64 key) false).run P w = .ok v w := by
  have hc : (Instr.checkKey es.isEmpty 10000 k (.int .i64 key)).run P w = .ok () w := MapKept.run_checkKey (k := .int .i64 key) hk (by simp [MapKept.IsKey]) _ 9999
  simp [Instr.lookup, run_underlying ht, MapKept.run_getObj_map hb, hc, MapKept.run_findKey hk hf, Result.andThen]
theorem run_kput (w : World) (t k e : TypeId) (ht : P.underlying t = some (.map k e)) (hk : P.underlying k = some (.int .i64)) (b : Nat) (vs : List Value) (hb : MapIs w b vs) (val : Value) :
    ∃ w', (Instr.mapUpdate t (.map (some b)) (.int .i64 ((vs.length + 1 : Nat) : Int)) val).run P w = .ok () w' ∧ MapIs w' b (vs ++ [val]) ∧ w.grownBy w' (some b) := by
  have hs := MapKept.heap_set (o' := .map ((kEnts vs 0).toArray.push ⟨.int .i64 ((vs.length + 1 : Nat) : Int), val, vs.length⟩) (vs.length + 1)) hb
  refine ⟨_, run_put_new w t k e ht hk b _ _ hb _ val (kEnts_new vs 0 0 vs.length (by omega)), ?_, rfl, rfl, rfl, by simp, fun k hk hne => hs.2 k (fun e => hne (by rw [e]))⟩
  unfold MapIs
  rw [kEnts_snoc, List.length_append, Nat.zero_add]
  simpa using hs.1
theorem run_kget (w : World) (t k e : TypeId) (ht : P.underlying t = some (.map k e)) (hk : P.underlying k = some (.int .i64)) (b : Nat) (vs : List Value) (hb : MapIs w b vs) (s : Nat) (v : Value) (hv : vs[s]? = some v) :
    (Instr.lookup t (.map (some b)) (.int .i64 ((s + 1 : Nat) : Int)) false).run P w = .ok v w := by
  have hf := kEnts_find vs 0 0 s v hv
  exact run_get_old w t k e ht hk b _ _ hb _ s v (by simpa using hf)
theorem wpList_kput {w : World} {ops : Array Oper} {rest : List Oper} {o : Oper} {a : Act} {Q : Exit → Act → World → Prop} (hg : o.guard = none) (m x v : Operand) (t : TypeId) (hop : o.op = Op.insert t m x v)
    (k e : TypeId) (ht : P.underlying t = some (.map k e)) (hk : P.underlying k = some (.int .i64)) (b : Nat) (vs : List Value) (hm : a.eval m = .map (some b)) (hb : MapIs w b vs) (key : Int) (val : Value) (hx : a.eval x = .int .i64 key) (hkey : key = ((vs.length + 1 : Nat) : Int)) (hv : a.eval v = val)
    (hK : ∀ w', MapIs w' b (vs ++ [val]) → w.grownBy w' (some b) → wpList P ops Q rest (a.put o.dst undef) w') : wpList P ops Q (o :: rest) a w := by
  refine wpList_plain hg fun K' hK' => ?_
  obtain ⟨w', hrun, r1, r2⟩ := run_kput w t k e ht hk b vs hb val
  rw [← hkey] at hrun
  unfold Oper.wp
  simp [execOp, hop, hm, hx, hv, hrun, Result.andThen]
  exact hK' _ _ (hK w' r1 r2)
end
theorem MapIs.grow {w w' : World} {b : Nat} {vs : List Value} (h : MapIs w b vs) (hb : Below w.heap.size w w') : MapIs w' b vs := (hb.block b (Array.getElem?_eq_some_iff.1 h).1).trans h
theorem MapIs.lt {w : World} {b : Nat} {vs : List Value} (h : MapIs w b vs) : b < w.heap.size := (Array.getElem?_eq_some_iff.1 h).1

/-- A function value that does a step; one that undoes it. -/
def DoFn (W : Nat) (w : World) (fv : Value) (s : Nat) : Prop :=
  ∃ (K : Nat) (cap : Array Value), fv = .func (.func K) #[] cap ∧ Enters Tryd.prog K ∧ ∀ (w' : World) (l : List UInt8) (v : Value), FKeep w w' → TabA w' → IsBytes l v w' → l.length ≤ 1000 →
    Calls Tryd.prog K (#[v, .int .i64 (W : Int)] ++ cap) w' (fun e w'' => ∃ m, doR W s l m ∧ NewBs w' m e w'')
def UndoFn (W : Nat) (w : World) (fv : Value) (s : Nat) : Prop :=
  ∃ (K : Nat) (cap : Array Value), fv = .func (.func K) #[] cap ∧ Enters Tryd.prog K ∧ ∀ (w' : World) (l : List UInt8) (v : Value) (raw : Nat), FKeep w w' → IsBytes l v w' → l.length ≤ 90000 → (raw ≤ 90000 ∨ l.length ≤ 5000) → raw ≤ 16777216 →
    Calls Tryd.prog K (#[v, .int .i64 (W : Int), .int .i64 (raw : Int)] ++ cap) w' (UndoAns w' (undoR W raw s l))
theorem DoFn.grow {W s : Nat} {w w1 : World} {fv : Value} (h : DoFn W w fv s) (hb : FKeep w w1) : DoFn W w1 fv s := by
  obtain ⟨K, cap, rfl, hE, hC⟩ := h
  exact ⟨K, cap, rfl, hE, fun w' l v hb' ht hv hl => hC w' l v (hb.trans hb') ht hv hl⟩
theorem UndoFn.grow {W s : Nat} {w w1 : World} {fv : Value} (h : UndoFn W w fv s) (hb : FKeep w w1) : UndoFn W w1 fv s := by
  obtain ⟨K, cap, rfl, hE, hC⟩ := h
  exact ⟨K, cap, rfl, hE, fun w' l v raw hb' hv hl h6 hr => hC w' l v raw (hb.trans hb') hv hl h6 hr⟩
theorem DoFn.bytes {W s : Nat} {w : World} {fv : Value} {f : List UInt8 → List UInt8} (h : BytesFn W w fv f) (hd : ∀ l, doR W s l (f l)) : DoFn W w fv s := by
  obtain ⟨K, cap, rfl, hE, hC⟩ := h
  exact ⟨K, cap, rfl, hE, fun w' l v hb _ hv hl => (hC w' l v hb hv (by omega)).mono fun _ _ hq => ⟨_, hd l, hq⟩⟩
/-- A step: what does it, and what undoes it. -/
def StepAt (W : Nat) (w : World) (v : Value) (s : Nat) : Prop := ∃ d u, v = .agg #[d, u] ∧ DoFn W w d s ∧ UndoFn W w u s
theorem StepAt.grow {W s : Nat} {w w1 : World} {v : Value} (h : StepAt W w v s) (hb : FKeep w w1) : StepAt W w1 v s := by
  obtain ⟨d, u, rfl, h1, h2⟩ := h
  exact ⟨d, u, rfl, h1.grow hb, h2.grow hb⟩
theorem step_size : (Tryd.prog.info? 38).map (·.size) = some 2 := by kernel_rfl
theorem step_end {w' : World} {p : Nat} {tmps : Array Value} {fn : Func} {q : Tmp} (hres : fn.results = #[.cell q 38]) {v0 v1 : Value} (hp : tmps.getD q undef = .pointer (some ⟨p, 0, none⟩)) (hk : Blk w' p 38 [v0, v1]) : (results fn tmps).run Tryd.prog w' = .ok (.agg #[v0, v1]) w' :=
  results_cell_row hres tmps w' p 38 _ (0, 0) _ hp hk Tryd.underlying38 rfl step_size
/-- asMany's closure undoes a step. -/
theorem UndoFn.many {W s : Nat} {f : List UInt8 → List UInt8} {w : World} {fu : Value} (hu : BytesFn W w fu f) (hun : ∀ raw l, undoR W raw s l = some (f l)) (g : Nat) (hg : Blk w g 36 [fu]) :
    UndoFn W w (.func (.func 42) #[] #[.pointer (some ⟨g, 0, none⟩)]) s :=
  ⟨_, _, rfl, enters_of Tryd.func42 (by kernel_rfl) rfl, fun w' l v raw hb hv hl _ _ => by
    rw [hun]
    exact asMany1_any fu f w hu g l v raw w' hb ((hb g _).2 hg) hv hl⟩
set_option maxHeartbeats 1000000 in
set_option maxRecDepth 100000 in
theorem asMany_raw (Kd : Nat) (capd : Array Value) (Ku : Nat) (capu : Array Value) (w : World) :
    Calls Tryd.prog 25 #[.func (.func Kd) #[] capd, .func (.func Ku) #[] capu] w fun e w' => e = .returned (.agg #[.func (.func Kd) #[] capd, .func (.func 42) #[] #[.pointer (some ⟨w.heap.size, 0, none⟩)]])
      ∧ Blk w' w.heap.size 36 [.func (.func Ku) #[] capu] ∧ Below w.heap.size w w' := by
  go_enter Tryd.func25, Tryd.ntmps25
  go_wp2
  obtain ⟨w1, hw1⟩ : ∃ w1, w1 = w.alloc (.cells #[Value.func (Fn.func Ku) #[] capu] 36) := ⟨_, rfl⟩
  have hs1 : w1.heap.size = w.heap.size + 1 := by rw [hw1]; simp
  have hb1 : Below w.heap.size w w1 := by rw [hw1]; exact (Below.refl _ _).alloc (Nat.le_refl _) _
  have hk1 : Blk w1 w.heap.size 36 [.func (.func Ku) #[] capu] := by rw [hw1]; exact heap_alloc_new w _
  rw [← hw1, ← hs1]
  have hk2 : Blk (w1.alloc (.cells #[Value.func (Fn.func Kd) #[] capd, Value.func (Fn.func 42) #[] #[Value.pointer (some ⟨w.heap.size, 0, none⟩)]] 38)) w1.heap.size 38 [.func (.func Kd) #[] capd, .func (.func 42) #[] #[.pointer (some ⟨w.heap.size, 0, none⟩)]] := heap_alloc_new w1 _
  have hb2 : Below w1.heap.size w1 (w1.alloc (.cells #[Value.func (Fn.func Kd) #[] capd, Value.func (Fn.func 42) #[] #[Value.pointer (some ⟨w.heap.size, 0, none⟩)]] 38)) := (Below.refl _ _).alloc (Nat.le_refl _) _
  exact bodyPost_ret (step_end Tryd.results25 rfl hk2) rfl ⟨rfl, hk1.grow hb2, hb1.trans (hb2.mono (by omega))⟩
set_option maxHeartbeats 1000000 in
set_option maxRecDepth 100000 in
theorem throughWords_any (K : Nat) (w : World) :
    Calls Tryd.prog 34 #[.func (.func K) #[] #[]] w fun e w' => e = .returned (.func (.func 53) #[] #[.pointer (some ⟨w.heap.size, 0, none⟩)]) ∧ Blk w' w.heap.size 46 [.func (.func K) #[] #[]] ∧ Below w.heap.size w w' := by
  go_enter Tryd.func34, Tryd.ntmps34
  go_wp2
  go_ret
  exact ⟨rfl, heap_alloc_new w _, (Below.refl _ _).alloc (Nat.le_refl _) _⟩
set_option maxHeartbeats 1000000 in
set_option maxRecDepth 100000 in
theorem onWords_any {W s : Nat} (hW : IsW W) (K1 K2 : Nat) (f g : List Nat → List Nat) (h1 : WordsFn W K1 f) (h2 : WordsFn W K2 g) (hd : ∀ l, doR W s l (through f W l)) (hu : ∀ raw l, undoR W raw s l = some (through g W l)) (w : World) :
    Calls Tryd.prog 16 #[.func (.func K1) #[] #[], .func (.func K2) #[] #[]] w fun e w' => ∃ v, e = .returned v ∧ StepAt W w' v s ∧ Below w.heap.size w w' := by
  have C1 := Lib.hid (fun (w' : World) => throughWords_any K1 w')
  have C2 := Lib.hid (fun (w' : World) => throughWords_any K2 w')
  have C3 := Lib.hid (fun (Kd : Nat) (capd : Array Value) (Ku : Nat) (capu : Array Value) (w' : World) => asMany_raw Kd capd Ku capu w')
  have HU := Lib.hid hu
  have H1 := Lib.hid h1
  have H2 := Lib.hid h2
  have HD := Lib.hid hd
  have HW := Lib.hid hW
  have hb0 : Below w.heap.size w (w.alloc (.cells #[Value.nilFunc, Value.nilFunc] 38)) := (Below.refl _ _).alloc (Nat.le_refl _) _
  have hk0 : Blk (w.alloc (.cells #[Value.nilFunc, Value.nilFunc] 38)) w.heap.size 38 [Value.nilFunc, Value.nilFunc] := heap_alloc_new w _
  have HB0 := Lib.hid hb0
  have HK0 := Lib.hid hk0
  clear h1 h2 hd hW hu hb0 hk0
  go_enter Tryd.func16, Tryd.ntmps16
  go_wp2_with fail
  refine (C1.out _).mono ?_
  rintro e w1 ⟨rfl, hk1, hb1⟩
  obtain ⟨g1, hg1⟩ : ∃ g1, g1 = (w.alloc (.cells #[Value.nilFunc, Value.nilFunc] 38)).heap.size := ⟨_, rfl⟩
  rw [← hg1] at hk1 ⊢
  have HK1 := Lib.hid hk1
  have hlt1 : w.heap.size < g1 := by rw [hg1]; simp
  have HB1 := Lib.hid (HB0.out.trans (hb1.mono HB0.out.size))
  have HK01 := Lib.hid (HK0.out.grow hb1)
  clear hk1 hb1 HK0 hg1 C1
  go_wp2_with fail
  refine (C2.out _).mono ?_
  rintro e w2 ⟨rfl, hk2, hb2⟩
  obtain ⟨g2, hg2⟩ : ∃ g2, g2 = w1.heap.size := ⟨_, rfl⟩
  rw [← hg2] at hk2 ⊢
  have HB2 := Lib.hid (HB1.out.trans (hb2.mono HB1.out.size))
  have HK02 := Lib.hid (HK01.out.grow hb2)
  have HK12 := Lib.hid (HK1.out.grow hb2)
  have HK2 := Lib.hid hk2
  have hlt2 : w.heap.size < g2 := by rw [hg2]; exact HK01.out.lt
  have C4 := Lib.hid (C3.out 53 #[.pointer (some ⟨g1, 0, none⟩)] 53 #[.pointer (some ⟨g2, 0, none⟩)] w2)
  clear hk2 hb2 hg2 C2 C3 HK1 HK01 HB1
  go_wp2_with fail
  refine C4.out.mono ?_
  rintro e w3 ⟨rfl, hkg, hb3⟩
  obtain ⟨g3, hg3⟩ : ∃ g3, g3 = w2.heap.size := ⟨_, rfl⟩
  rw [← hg3] at hkg ⊢
  have hlt3 : w.heap.size < g3 := by rw [hg3]; exact HK02.out.lt
  have HKG := Lib.hid hkg
  have HB3 := Lib.hid (HB2.out.trans (hb3.mono HB2.out.size))
  have hk3 := HK02.out.grow hb3
  have HK3 := Lib.hid hk3
  have HK13 := Lib.hid (HK12.out.grow hb3)
  have HK23 := Lib.hid (HK2.out.grow hb3)
  have hc0 := hk3.cell 0
  have hc1 := hk3.cell 1
  have hf0 := hk3.frozen 0
  have hf1 := hk3.frozen 1
  simp only [List.getElem?_cons_zero, List.getElem?_cons_succ] at hc0 hc1
  clear hk3 hb3 C4 HK02 HB2 hkg hg3 HK12 HK2
  go_wp2
  have two : ∀ {k : Nat} {t : TypeId} {cs : List Value} (v0 v1 : Value), Blk w3 k t cs → w.heap.size < k → Blk ((w3.setCell ⟨w.heap.size, 0, none⟩ v0).setCell ⟨w.heap.size, 1, none⟩ v1) k t cs := fun v0 v1 h hlt => (h.setOther _ _ (by simp only; omega)).setOther _ _ (by simp only; omega)
  have hb4 : ∀ (v0 v1 : Value), Below w.heap.size w ((w3.setCell ⟨w.heap.size, 0, none⟩ v0).setCell ⟨w.heap.size, 1, none⟩ v1) := fun v0 v1 => (HB3.out.setCell (p := ⟨w.heap.size, 0, none⟩) (Nat.le_refl _) v0).setCell (p := ⟨w.heap.size, 1, none⟩) (Nat.le_refl _) v1
  refine bodyPost_ret (step_end Tryd.results16 rfl ((HK3.out.set_ 0 _).set_ 1 _)) rfl ⟨_, rfl, ⟨_, _, rfl, DoFn.bytes (bytes_through HW.out K1 f H1.out g1 _ (two _ _ HK13.out hlt1)) HD.out, UndoFn.many (bytes_through HW.out K2 g H2.out g2 _ (two _ _ HK23.out hlt2)) HU.out g3 (two _ _ HKG.out hlt3)⟩, hb4 _ _⟩
theorem MapIs.keeps {w w' : World} {b : Nat} {vs : List Value} (h : MapIs w b vs) (hg : w.grownBy w' (some b)) : FKeep w w' := by
  have key : ∀ {k : Nat} {t : TypeId} {cs : List Value}, Blk w k t cs → Blk w' k t cs := fun {k t cs} q => by
    refine (hg.block k q.lt (fun e => ?_)).trans q
    injection e with e
    subst e
    have q2 : w.heap[k]? = some (.cells cs.toArray t (0, 0)) := q
    rw [show w.heap[k]? = _ from h] at q2
    cases q2
  exact fun k v => ⟨key, key⟩
theorem do_split {W : Nat} (hW : IsW W) (w : World) : DoFn W w (.func (.func 26) #[] #[]) 5 := DoFn.bytes (bytes_split hW w) fun _ => .inr (.inr (.inr (.inr (.inl ⟨rfl, rfl⟩))))
theorem step_bits {W : Nat} (hW : IsW W) (w : World) : StepAt W w (.agg #[.func (.func 28) #[] #[], .func (.func 29) #[] #[]]) 6 :=
  ⟨_, _, rfl, ⟨_, _, rfl, enters_of Tryd.func28 (by kernel_rfl) rfl, fun w' l v _ ht hv hl => asBits_any hW l v w' hv hl ht⟩,
    ⟨_, _, rfl, enters_of Tryd.func29 (by kernel_rfl) rfl, fun w' l v raw _ hv hl hfit hr => fromBits_any hW l v raw hr w' hv hl hfit⟩⟩
theorem step_runs {W : Nat} (w : World) : StepAt W w (.agg #[.func (.func 30) #[] #[], .func (.func 31) #[] #[]]) 7 :=
  ⟨_, _, rfl, ⟨_, _, rfl, enters_of Tryd.func30 (by kernel_rfl) rfl, fun w' l v _ _ hv hl => (asRuns_any l v (W : Int) w' hv (by omega)).mono fun _ _ h => ⟨_, .inr (.inr (.inr (.inr (.inr (.inr ⟨rfl, rfl⟩))))), h⟩⟩,
    ⟨_, _, rfl, enters_of Tryd.func31 (by kernel_rfl) rfl, fun w' l v raw _ hv hl _ hr => fromRuns_any l v W raw hr w' hv hl⟩⟩
/-- Block b is the map of the steps. -/
def KindsAt (W : Nat) (w : World) (b : Nat) : Prop := ∃ vs, MapIs w b vs ∧ vs.length = 7 ∧ ∀ s v, vs[s]? = some v → StepAt W w v (s + 1)
theorem KindsAt.grow {W b : Nat} {w w' : World} (h : KindsAt W w b) (hb : Below w.heap.size w w') : KindsAt W w' b := by
  obtain ⟨vs, h1, h2, h3⟩ := h
  exact ⟨vs, h1.grow hb, h2, fun s v hv => (h3 s v hv).grow (.of_below hb)⟩
/- kinds, by gen_reckinds.py -/
set_option maxHeartbeats 2000000 in
set_option maxRecDepth 100000 in
theorem kinds_any {W : Nat} (hW : IsW W) (w : World) : Calls Tryd.prog 10 #[] w fun e w' => ∃ b, e = .returned (.map (some b)) ∧ KindsAt W w' b ∧ Below w.heap.size w w' := by
  have hmm := @run_makeMap Tryd.prog
  have C1 := Lib.hid (fun (w' : World) => onWords_any (s := 1) hW 17 18 _ _ (fn_diff hW) (fn_sum hW) (fun _ => .inl ⟨rfl, rfl⟩) (fun _ _ => rfl) w')
  have C2 := Lib.hid (fun (w' : World) => onWords_any (s := 2) hW 19 20 _ _ (fn_second hW) (fn_twice hW) (fun _ => .inr (.inl ⟨rfl, rfl⟩)) (fun _ _ => rfl) w')
  have C3 := Lib.hid (fun (w' : World) => onWords_any (s := 3) hW 21 22 _ _ (fn_fold hW) (fn_unfold hW) (fun _ => .inr (.inr (.inl ⟨rfl, rfl⟩))) (fun _ _ => rfl) w')
  have C4 := Lib.hid (fun (w' : World) => onWords_any (s := 4) hW 23 24 _ _ (fn_flip hW) (fn_back hW) (fun _ => .inr (.inr (.inr (.inl ⟨rfl, rfl⟩)))) (fun _ _ => rfl) w')
  have C5 := Lib.hid (fun (w' : World) => asMany_raw 26 #[] 27 #[] w')
  have HW := Lib.hid hW
  have hb0 : Below w.heap.size w (w.alloc (.map #[] 0)) := (Below.refl _ _).alloc (Nat.le_refl _) _
  have HM := Lib.hid (show MapIs (w.alloc (.map #[] 0)) w.heap.size [] from (MapKept.heap_alloc w _).1)
  obtain ⟨b, hbd⟩ : ∃ b, b = w.heap.size := ⟨_, rfl⟩
  have HB := Lib.hid hb0
  have HBD := Lib.hid hbd
  rw [← hbd] at HM
  clear hW hb0 hbd
  go_enter Tryd.func10, Tryd.ntmps10
  go_wp2_with fail
  rw [← HBD.out]
  refine (C1.out _).mono ?_
  rintro e w1 ⟨v1, rfl, hs, hb⟩
  have HB1 := Lib.hid (HB.out.trans (hb.mono HB.out.size))
  have HM1 := Lib.hid (HM.out.grow hb)
  have HS1 := Lib.hid hs
  obtain ⟨d1, u1, rfl, ⟨Kd1, cd1, rfl, -, -⟩, ⟨Ku1, cu1, rfl, -, -⟩⟩ := hs
  clear hb C1 HM HB
  go_wp2_with ((with_reducible show wpList _ _ _ (({ dst := none, op := Op.insert _ _ (.const (.int .i64 1)) _, type := _, pos := _, after := _, guard := _ } : Oper) :: _) _ _); go_must (refine wpList_kput rfl (.tmp 1) (.const (.int .i64 1)) (.tmp 2) 33 rfl 3 38 Tryd.underlying33 Tryd.underlying3 b _ rfl HM1.out 1 _ rfl rfl rfl ?_; intro w1p hm hg; have HM1p := Lib.hid hm; have HF := Lib.hid (HM1.out.keeps hg); have HB1p := Lib.hid (HB1.out.grown hg HB1.out.size (fun k hk => by cases hk; exact Nat.le_of_eq HBD.out.symm)); clear hm hg; have HS1 := Lib.hid (HS1.out.grow HF.out); clear HF HM1 HB1))
  refine (C2.out _).mono ?_
  rintro e w2 ⟨v2, rfl, hs, hb⟩
  have HB2 := Lib.hid (HB1p.out.trans (hb.mono HB1p.out.size))
  have HM2 := Lib.hid (HM1p.out.grow hb)
  have HS1 := Lib.hid (HS1.out.grow (.of_below hb))
  have HS2 := Lib.hid hs
  obtain ⟨d2, u2, rfl, ⟨Kd2, cd2, rfl, -, -⟩, ⟨Ku2, cu2, rfl, -, -⟩⟩ := hs
  clear hb C2 HM1p HB1p
  go_wp2_with ((with_reducible show wpList _ _ _ (({ dst := none, op := Op.insert _ _ (.const (.int .i64 2)) _, type := _, pos := _, after := _, guard := _ } : Oper) :: _) _ _); go_must (refine wpList_kput rfl (.tmp 1) (.const (.int .i64 2)) (.tmp 3) 33 rfl 3 38 Tryd.underlying33 Tryd.underlying3 b _ rfl HM2.out 2 _ rfl rfl rfl ?_; intro w2p hm hg; have HM2p := Lib.hid hm; have HF := Lib.hid (HM2.out.keeps hg); have HB2p := Lib.hid (HB2.out.grown hg HB2.out.size (fun k hk => by cases hk; exact Nat.le_of_eq HBD.out.symm)); clear hm hg; have HS1 := Lib.hid (HS1.out.grow HF.out); have HS2 := Lib.hid (HS2.out.grow HF.out); clear HF HM2 HB2))
  refine (C3.out _).mono ?_
  rintro e w3 ⟨v3, rfl, hs, hb⟩
  have HB3 := Lib.hid (HB2p.out.trans (hb.mono HB2p.out.size))
  have HM3 := Lib.hid (HM2p.out.grow hb)
  have HS1 := Lib.hid (HS1.out.grow (.of_below hb))
  have HS2 := Lib.hid (HS2.out.grow (.of_below hb))
  have HS3 := Lib.hid hs
  obtain ⟨d3, u3, rfl, ⟨Kd3, cd3, rfl, -, -⟩, ⟨Ku3, cu3, rfl, -, -⟩⟩ := hs
  clear hb C3 HM2p HB2p
  go_wp2_with ((with_reducible show wpList _ _ _ (({ dst := none, op := Op.insert _ _ (.const (.int .i64 3)) _, type := _, pos := _, after := _, guard := _ } : Oper) :: _) _ _); go_must (refine wpList_kput rfl (.tmp 1) (.const (.int .i64 3)) (.tmp 4) 33 rfl 3 38 Tryd.underlying33 Tryd.underlying3 b _ rfl HM3.out 3 _ rfl rfl rfl ?_; intro w3p hm hg; have HM3p := Lib.hid hm; have HF := Lib.hid (HM3.out.keeps hg); have HB3p := Lib.hid (HB3.out.grown hg HB3.out.size (fun k hk => by cases hk; exact Nat.le_of_eq HBD.out.symm)); clear hm hg; have HS1 := Lib.hid (HS1.out.grow HF.out); have HS2 := Lib.hid (HS2.out.grow HF.out); have HS3 := Lib.hid (HS3.out.grow HF.out); clear HF HM3 HB3))
  refine (C4.out _).mono ?_
  rintro e w4 ⟨v4, rfl, hs, hb⟩
  have HB4 := Lib.hid (HB3p.out.trans (hb.mono HB3p.out.size))
  have HM4 := Lib.hid (HM3p.out.grow hb)
  have HS1 := Lib.hid (HS1.out.grow (.of_below hb))
  have HS2 := Lib.hid (HS2.out.grow (.of_below hb))
  have HS3 := Lib.hid (HS3.out.grow (.of_below hb))
  have HS4 := Lib.hid hs
  obtain ⟨d4, u4, rfl, ⟨Kd4, cd4, rfl, -, -⟩, ⟨Ku4, cu4, rfl, -, -⟩⟩ := hs
  clear hb C4 HM3p HB3p
  go_wp2_with ((with_reducible show wpList _ _ _ (({ dst := none, op := Op.insert _ _ (.const (.int .i64 4)) _, type := _, pos := _, after := _, guard := _ } : Oper) :: _) _ _); go_must (refine wpList_kput rfl (.tmp 1) (.const (.int .i64 4)) (.tmp 5) 33 rfl 3 38 Tryd.underlying33 Tryd.underlying3 b _ rfl HM4.out 4 _ rfl rfl rfl ?_; intro w4p hm hg; have HM4p := Lib.hid hm; have HF := Lib.hid (HM4.out.keeps hg); have HB4p := Lib.hid (HB4.out.grown hg HB4.out.size (fun k hk => by cases hk; exact Nat.le_of_eq HBD.out.symm)); clear hm hg; have HS1 := Lib.hid (HS1.out.grow HF.out); have HS2 := Lib.hid (HS2.out.grow HF.out); have HS3 := Lib.hid (HS3.out.grow HF.out); have HS4 := Lib.hid (HS4.out.grow HF.out); clear HF HM4 HB4))
  refine (C5.out _).mono ?_
  rintro e w5 ⟨rfl, hk, hb⟩
  have hs : StepAt W w5 (.agg #[.func (.func 26) #[] #[], .func (.func 42) #[] #[.pointer (some ⟨w4p.heap.size, 0, none⟩)]]) 5 := ⟨_, _, rfl, do_split HW.out w5, UndoFn.many (bytes_join HW.out w5) (fun _ _ => rfl) _ hk⟩
  clear hk
  have HB5 := Lib.hid (HB4p.out.trans (hb.mono HB4p.out.size))
  have HM5 := Lib.hid (HM4p.out.grow hb)
  have HS1 := Lib.hid (HS1.out.grow (.of_below hb))
  have HS2 := Lib.hid (HS2.out.grow (.of_below hb))
  have HS3 := Lib.hid (HS3.out.grow (.of_below hb))
  have HS4 := Lib.hid (HS4.out.grow (.of_below hb))
  have HS5 := Lib.hid hs
  clear hb C5 HM4p HB4p hs
  have HS6 := Lib.hid (step_bits HW.out w5)
  have HS7 := Lib.hid (step_runs (W := W) w5)
  go_wp2_with (first
    | ((with_reducible show wpList _ _ _ (({ dst := none, op := Op.insert _ _ (.const (.int .i64 5)) _, type := _, pos := _, after := _, guard := _ } : Oper) :: _) _ _); go_must (refine wpList_kput rfl (.tmp 1) (.const (.int .i64 5)) (.tmp 6) 33 rfl 3 38 Tryd.underlying33 Tryd.underlying3 b _ rfl HM5.out 5 _ rfl rfl rfl ?_; intro w5p hm hg; have HM6 := Lib.hid hm; have HF5 := Lib.hid (HM5.out.keeps hg); have HB6 := Lib.hid (HB5.out.grown hg HB5.out.size (fun k hk => by cases hk; exact Nat.le_of_eq HBD.out.symm)); clear hm hg HM5 HB5))
    | ((with_reducible show wpList _ _ _ (({ dst := none, op := Op.insert _ _ (.const (.int .i64 6)) _, type := _, pos := _, after := _, guard := _ } : Oper) :: _) _ _); go_must (refine wpList_kput rfl (.tmp 1) (.const (.int .i64 6)) (.tmp 7) 33 rfl 3 38 Tryd.underlying33 Tryd.underlying3 b _ rfl HM6.out 6 _ rfl rfl rfl ?_; intro w6p hm hg; have HM7 := Lib.hid hm; have HF6 := Lib.hid (HM6.out.keeps hg); have HB7 := Lib.hid (HB6.out.grown hg HB6.out.size (fun k hk => by cases hk; exact Nat.le_of_eq HBD.out.symm)); clear hm hg HM6 HB6))
    | ((with_reducible show wpList _ _ _ (({ dst := none, op := Op.insert _ _ (.const (.int .i64 7)) _, type := _, pos := _, after := _, guard := _ } : Oper) :: _) _ _); go_must (refine wpList_kput rfl (.tmp 1) (.const (.int .i64 7)) (.tmp 8) 33 rfl 3 38 Tryd.underlying33 Tryd.underlying3 b _ rfl HM7.out 7 _ rfl rfl rfl ?_; intro w7p hm hg; have HM8 := Lib.hid hm; have HF7 := Lib.hid (HM7.out.keeps hg); have HB8 := Lib.hid (HB7.out.grown hg HB7.out.size (fun k hk => by cases hk; exact Nat.le_of_eq HBD.out.symm)); clear hm hg HM7 HB7)))
  go_ret
  have hf : FKeep w5 w7p := HF5.out.trans (HF6.out.trans HF7.out)
  refine ⟨b, rfl, ⟨_, HM8.out, rfl, ?_⟩, HB8.out⟩
  intro s v hv
  rcases s with _ | _ | _ | _ | _ | _ | _ | s
  · obtain rfl := Option.some.inj hv
    exact HS1.out.grow hf
  · obtain rfl := Option.some.inj hv
    exact HS2.out.grow hf
  · obtain rfl := Option.some.inj hv
    exact HS3.out.grow hf
  · obtain rfl := Option.some.inj hv
    exact HS4.out.grow hf
  · obtain rfl := Option.some.inj hv
    exact HS5.out.grow hf
  · obtain rfl := Option.some.inj hv
    exact HS6.out.grow hf
  · obtain rfl := Option.some.inj hv
    exact HS7.out.grow hf
  · simp at hv
end Go.Proofs.YtcenbaajojdjlaaDoor
