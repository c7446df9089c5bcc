/- Layer 21: a map whose keys are codes. -/
import Derived.Test.YtjncmfoommlldaaHeapMath
import Derived.Test.YtjncmfoommlldaaInts
import Derived.MapKept
import Derived.Laws.StructEq
namespace Go.Proofs.Ytjncmfoommlldaa
open Go.RowKit

def codeVI (a b : Int) : Value := .agg #[.int .i64 a, .int .i64 b]
def codeV (k : Pr) : Value := codeVI (k.1 : Int) (k.2 : Int)
/-- Entries: a code, and the letter that has it. -/
def cEnts : List (Pr × Nat) → Nat → List MapEntry
  | [], _ => []
  | p :: t, b => ⟨codeV p.1, .int .i64 (p.2 : Int), b⟩ :: cEnts t (b + 1)
theorem cEnts_len : ∀ (es : List (Pr × Nat)) (b : Nat), (cEnts es b).length = es.length
  | [], _ => rfl
  | p :: t, b => by simp [cEnts, cEnts_len t]
theorem cEnts_snoc : ∀ (es : List (Pr × Nat)) (b : Nat) (p : Pr × Nat), cEnts (es ++ [p]) b = cEnts es b ++ [⟨codeV p.1, .int .i64 (p.2 : Int), b + es.length⟩]
  | [], b, p => by simp [cEnts]
  | q :: t, b, p => by
    simp only [List.cons_append, cEnts, cEnts_snoc t, List.length_cons]
    rw [show b + 1 + t.length = b + (t.length + 1) by omega]
/-- Block b is a map of these. -/
def MapC (w : World) (b : Nat) (es : List (Pr × Nat)) : Prop := w.heap[b]? = some (.map (cEnts es 0).toArray es.length)
def findC (x y : Int) : List (Pr × Nat) → Nat → Option (Nat × Value)
  | [], _ => none
  | p :: t, j => if x = (p.1.1 : Int) ∧ y = (p.1.2 : Int) then some (j, .int .i64 (p.2 : Int)) else findC x y t (j + 1)
theorem findC_none (x y : Int) : ∀ (es : List (Pr × Nat)) (j : Nat), (∀ p ∈ es, ¬ (x = (p.1.1 : Int) ∧ y = (p.1.2 : Int))) → findC x y es j = none
  | [], _, _ => rfl
  | p :: t, j, h => by
    unfold findC
    rw [if_neg (h p List.mem_cons_self)]
    exact findC_none x y t (j + 1) fun q hq => h q (List.mem_cons_of_mem _ hq)
theorem findC_some (x y : Int) : ∀ (es : List (Pr × Nat)) (j : Nat) (p : Pr × Nat), p ∈ es → (x = (p.1.1 : Int) ∧ y = (p.1.2 : Int)) → (∀ q ∈ es, (x = (q.1.1 : Int) ∧ y = (q.1.2 : Int)) → q.2 = p.2) → ∃ i, findC x y es j = some (i, .int .i64 (p.2 : Int))
  | [], _, _, h, _, _ => by cases h
  | q :: t, j, p, h, he, hu => by
    unfold findC
    by_cases e : x = (q.1.1 : Int) ∧ y = (q.1.2 : Int)
    · rw [if_pos e, hu q List.mem_cons_self e]
      exact ⟨j, rfl⟩
    · rw [if_neg e]
      rcases List.mem_cons.1 h with rfl | h
      · exact absurd he e
      · exact findC_some x y t (j + 1) p h he fun r hr => hu r (List.mem_cons_of_mem _ hr)
set_option maxRecDepth 100000 in
theorem equal_code (a b c d : Int) (w : World) : (Op.equal 59 (codeVI a b) (codeVI c d)).run Try.prog w = .ok (decide (a = c) && decide (b = d)) w := by
  have u3 := Try.underlying3
  have hS : Try.prog.underlying 59 = some (.struct (Try.prog.fieldsOf 59)) := by kernel_rfl
  have hp : Try.prog.stoodInHeld 59 = false := by kernel_rfl
  unfold Op.equal codeVI
  rw [show Op.maxDepth = 9999 + 1 from rfl, run_equalIn_agg w 9999 59 _ _ hS hp]
  simp only [Program.fieldsOf, Try.underlying59]
  go_simp
  by_cases h1 : a = c <;> by_cases h2 : b = d <;> simp [h1, h2]
theorem check_code (e : Bool) (a b : Int) (w : World) : (Instr.checkKey e 10000 59 (codeVI a b)).run Try.prog w = .ok () w := by
  unfold codeVI
  kernel_rfl
theorem asking_code (x y : Int) (w : World) : ∀ (es : List (Pr × Nat)) (b j : Nat), (Instr.findAsking 59 (codeVI x y) (cEnts es b) j).run Try.prog w = .ok (findC x y es j) w
  | [], _, _ => by simp [Instr.findAsking, cEnts, findC]
  | p :: t, b, j => by
    unfold cEnts Instr.findAsking codeV
    simp only [Sem.run_bind, equal_code, Result.andThen_ok]
    unfold findC
    by_cases e : x = (p.1.1 : Int) ∧ y = (p.1.2 : Int)
    · rw [if_pos e]
      simp [e.1, e.2]
    · rw [if_neg e]
      have h : (decide (x = (p.1.1 : Int)) && decide (y = (p.1.2 : Int))) = false := by
        rw [Bool.and_eq_false_iff, decide_eq_false_iff_not, decide_eq_false_iff_not]
        by_cases h1 : x = (p.1.1 : Int)
        · exact .inr fun h2 => e ⟨h1, h2⟩
        · exact .inl h1
      rw [h]
      simpa using asking_code x y w t (b + 1) (j + 1)
theorem now_code (x y : Int) (fs) : ∀ (es : List (Pr × Nat)) (b j : Nat), Instr.findNow (.struct fs) (codeVI x y) (cEnts es b) j = if es = [] then some none else none
  | [], _, _ => rfl
  | p :: t, b, j => by simp [cEnts, Instr.findNow, Instr.sameNow, codeVI]
theorem find_code (x y : Int) (w : World) (es : List (Pr × Nat)) : (Instr.findKey 59 (codeVI x y) (cEnts es 0)).run Try.prog w = .ok (findC x y es 0) w := by
  have hu := Try.underlying59
  unfold Instr.findKey
  simp only [Sem.run_bind, run_underlying hu, Result.andThen_ok, now_code]
  by_cases e : es = []
  · subst e; simp [findC]
  · rw [if_neg e]; exact asking_code x y w es 0 0
theorem run_cput (w : World) (b : Nat) (es : List (Pr × Nat)) (hb : MapC w b es) (k : Pr) (i : Nat) (hn : ∀ p ∈ es, p.1 ≠ k) :
    ∃ w', (Instr.mapUpdate 55 (.map (some b)) (codeV k) (.int .i64 (i : Int))).run Try.prog w = .ok () w' ∧ MapC w' b (es ++ [(k, i)]) ∧ w.grownBy w' (some b) := by
  have ht := Try.underlying55
  have hf : findC (k.1 : Int) (k.2 : Int) es 0 = none := findC_none _ _ es 0 fun p hp h => hn p hp (Prod.ext (by omega) (by omega))
  have hs := MapKept.heap_set (w := w) (o' := .map ((cEnts es 0).toArray.push ⟨codeV k, .int .i64 (i : Int), es.length⟩) (es.length + 1)) hb
  refine ⟨{ w with heap := w.heap.setIfInBounds b (.map ((cEnts es 0).toArray.push ⟨codeV k, .int .i64 (i : Int), es.length⟩) (es.length + 1)) }, ?_, ?_, rfl, rfl, rfl, by simp, fun r hr hne => hs.2 r (fun e => hne (by rw [e]))⟩
  · have h1 := check_code false (k.1 : Int) (k.2 : Int) w
    have h2 := find_code (k.1 : Int) (k.2 : Int) w es
    rw [hf] at h2
    unfold codeV
    simp [Instr.mapUpdate, run_underlying ht, MapKept.run_getObj_map hb, h1, h2, MapKept.run_setObj_map _ hb, Result.andThen]
  · unfold MapC
    rw [hs.1, cEnts_snoc]
    simp
theorem run_cget (w : World) (b : Nat) (es : List (Pr × Nat)) (hb : MapC w b es) (x y : Int) :
    (Instr.lookup 55 (.map (some b)) (codeVI x y) true).run Try.prog w = .ok (match findC x y es 0 with | some r => .tuple #[r.2, .bool true] | none => .tuple #[.int .i64 0, .bool false]) w := by
  have ht := Try.underlying55
  have hz : (zeroValue 3).run Try.prog w = .ok (.int .i64 0) w := by kernel_rfl
  have h2 := find_code x y w es
  have h1 := check_code (cEnts es 0).toArray.isEmpty x y w
  simp only [Instr.lookup, Sem.run_bind, run_underlying ht, Result.andThen_ok, MapKept.run_getObj_map hb, Sem.run_pure, h1, h2]
  cases findC x y es 0 with
  | none => simp [hz]
  | some r => simp
theorem MapC.lt {w : World} {b : Nat} {es : List (Pr × Nat)} (h : MapC w b es) : b < w.heap.size := (Array.getElem?_eq_some_iff.1 h).1
theorem MapC.grow {w w' : World} {b : Nat} {es : List (Pr × Nat)} (h : MapC w b es) (hb : Below w.heap.size w w') : MapC w' b es := (hb.block b h.lt).trans h
theorem MapC.same {w w' : World} {b : Nat} {es : List (Pr × Nat)} (h : MapC w b es) (e : w'.heap = w.heap) : MapC w' b es := by unfold MapC; rw [e]; exact h
theorem MapC.set {w : World} {b : Nat} {es : List (Pr × Nat)} (h : MapC w b es) (a : Addr) (v : Value) (hne : b ≠ a.block) : MapC (w.setCell a v) b es := (heap_setCell_other w a b v hne).trans h
theorem mapC_new (w : World) : MapC (w.alloc (.map #[] 0)) w.heap.size [] := by
  have := heap_alloc_new w (.map #[] 0)
  exact this
end Go.Proofs.Ytjncmfoommlldaa
