/- The rule for regions, where nothing that was there is turned: each operation's value is told by a fact that stays while memory grows. -/
import Derived.Test.YtclhgjjehnmncaaDoorRegion
namespace Go.Proofs.YtclhgjjehnmncaaDoor
open Go.RowKit

/-- The value v is a slice of the bytes l, whatever lies behind it. -/
def IsBytes (l : List UInt8) (v : Value) (w : World) : Prop := ∃ A c, v = .slice A l.length c ∧ l.length ≤ c ∧ Rd w w.heap.size A (bvs l)
theorem IsBytes.grow {l : List UInt8} {v : Value} {w w' : World} (h : IsBytes l v w) (hb : Below w.heap.size w w') : IsBytes l v w' := by
  obtain ⟨A, c, rfl, hc, hr⟩ := h
  exact ⟨A, c, rfl, hc, (hr.below hb).more hb.size⟩
theorem IsBytes.of_own {w : World} {base e : Nat} {v : Value} {l : List UInt8} (h : w.ownsRow base e 1 v l.length (bvs l)) : IsBytes l v w := by
  obtain ⟨A, c, rfl, hc, _⟩ := own_form h
  exact ⟨A, c, rfl, hc, Rd.of_own h⟩

/-- The value v is a slice of these cells, whatever lies behind it. -/
def IsCells (xs : List Value) (v : Value) (w : World) : Prop := ∃ A c, v = .slice A xs.length c ∧ xs.length ≤ c ∧ Rd w w.heap.size A xs
theorem IsCells.grow {xs : List Value} {v : Value} {w w' : World} (h : IsCells xs v w) (hb : Below w.heap.size w w') : IsCells xs v w' := by
  obtain ⟨A, c, rfl, hc, hr⟩ := h
  exact ⟨A, c, rfl, hc, (hr.below hb).more hb.size⟩

/-- What is said of a value. -/
inductive Fact where
  | is (c : Value)
  | bytes (l : List UInt8)
  | cells (xs : List Value)
  | nothing
def Fact.says : Fact → Value → World → Prop
  | .is c, v, _ => v = c
  | .bytes l, v, w => IsBytes l v w
  | .cells xs, v, w => IsCells xs v w
  | .nothing, _, _ => True
theorem Fact.grow {f : Fact} {v : Value} {w w' : World} (h : f.says v w) (hb : Below w.heap.size w w') : f.says v w' := by
  cases f with
  | is c => exact h
  | bytes l => exact IsBytes.grow h hb
  | cells xs => exact IsCells.grow h hb
  | nothing => trivial

/-- An operation as the prover sees it: its temporary, the operations that it leans on, what is said of its value. -/
structure Row where
  dst : Nat
  need : List Nat
  fact : Fact
def rowAt : List Row → Nat → Row
  | [], _ => ⟨0, [], .nothing⟩
  | r :: _, 0 => r
  | _ :: l, k + 1 => rowAt l k

/-- The slots that the region reads and does not write. -/
def OutsSay (ev : Operand → Value) : List (Nat × Value) → Prop
  | [] => True
  | p :: l => ev (.tmp p.1) = p.2 ∧ OutsSay ev l
def NeedSay (rows : List Row) (ev : Operand → Value) (yi : Nat → Option Bool) (w : World) : List Nat → Prop
  | [] => True
  | j :: l => (rowAt rows j).fact.says (ev (.tmp (rowAt rows j).dst)) w ∧ yi j = boolOf (ev (.tmp (rowAt rows j).dst)) ∧ NeedSay rows ev yi w l

def OblG (P : Program) (w0 : World) (rows : List Row) (outs : List (Nat × Value)) (r : Row) (o : Oper) : Prop :=
  ∀ (ev : Operand → Value) (yi : Nat → Option Bool) (w : World), Below w0.heap.size w0 w → (∀ c, ev (.const c) = c) → (∀ f, ev (.func f) = .func (.func f) #[] #[]) → OutsSay ev outs → NeedSay rows ev yi w r.need →
    if Region.wanted o yi = true then OpSays P o ev w (fun v w' => r.fact.says v w' ∧ Below w.heap.size w w') else r.fact.says undef w
def OblGAll (P : Program) (w0 : World) (rows : List Row) (outs : List (Nat × Value)) : List Row → List Oper → Prop
  | r :: rs, o :: os => OblG P w0 rows outs r o ∧ OblGAll P w0 rows outs rs os
  | _, _ => True
theorem OblGAll.cons {P : Program} {w0 : World} {rows : List Row} {outs : List (Nat × Value)} {r : Row} {rs : List Row} {o : Oper} {os : List Oper} (h : OblG P w0 rows outs r o) (hs : OblGAll P w0 rows outs rs os) : OblGAll P w0 rows outs (r :: rs) (o :: os) := ⟨h, hs⟩
theorem OblGAll.nil {P : Program} {w0 : World} {rows : List Row} {outs : List (Nat × Value)} : OblGAll P w0 rows outs [] [] := trivial

def outsOk (ops : Array Oper) (outs : List (Nat × Value)) : Bool := outs.all fun p => (List.range ops.size).all (fun k => dstOf ops k != p.1)
/-- Do the rows speak of these operations? -/
def rowsOk (ops : Array Oper) (rows : List Row) : Bool :=
  rows.length == ops.size && (List.range ops.size).all fun k => (rowAt rows k).dst == dstOf ops k && (rowAt rows k).need.all fun j => ((ops[k]?).map fun o => (predsOf o).contains j).getD false

theorem rowAt_get : ∀ (rows : List Row) (k : Nat) (r : Row), rows[k]? = some r → rowAt rows k = r
  | [], _, _, h => by simp at h
  | _ :: _, 0, _, h => by simpa [rowAt] using h
  | _ :: l, k + 1, r, h => rowAt_get l k r (by simpa using h)

section
variable {P : Program} {ops : Array Oper} {a0 : Act} {w0 : World} {Q : Exit → Act → World → Prop}
theorem outs_say {F : Nat → Value → World → Prop} {o : Oper} {ev : Operand → Value} {yi : Nat → Option Bool} {w : World} {i : Nat} (henv : Env ops a0 F i o ev yi w) : ∀ outs : List (Nat × Value), outsOk ops outs = true → OutsSay a0.eval outs → OutsSay ev outs
  | [], _, _ => trivial
  | p :: l, hok, h => by
    simp only [outsOk, List.all_cons, Bool.and_eq_true] at hok
    exact ⟨(henv.out p.1 hok.1).trans h.1, outs_say henv l hok.2 h.2⟩
theorem need_say {rows : List Row} {o : Oper} {ev : Operand → Value} {yi : Nat → Option Bool} {w : World} {i : Nat} (henv : Env ops a0 (fun k => (rowAt rows k).fact.says) i o ev yi w) (hd : ∀ k, k < ops.size → (rowAt rows k).dst = dstOf ops k) :
    ∀ l : List Nat, (∀ j ∈ l, j ∈ predsOf o ∧ j < ops.size) → NeedSay rows ev yi w l
  | [], _ => trivial
  | j :: l, h => by
    have hj := h j (by simp)
    refine ⟨?_, ?_, need_say henv hd l fun i hi => h i (by simp [hi])⟩
    · rw [hd j hj.2]; exact henv.fact j hj.1
    · rw [hd j hj.2]; exact henv.yields j hj.2
theorem oblAll_of_grow {rows : List Row} {outs : List (Nat × Value)} (hout : outsOk ops outs = true) (houts : OutsSay a0.eval outs) (hd : ∀ k, k < ops.size → (rowAt rows k).dst = dstOf ops k) :
    ∀ (l : List Oper) (rs : List Row) (k : Nat), rs.length = l.length → (∀ i r, rs[i]? = some r → rowAt rows (k + i) = r) → OblGAll P w0 rows outs rs l → (∀ (i : Nat) (o : Oper) (r : Row), l[i]? = some o → rs[i]? = some r → ∀ j ∈ r.need, j ∈ predsOf o ∧ j < ops.size) →
    OblAll P ops a0 (fun k => (rowAt rows k).fact.says) (fun _ _ => True) (fun _ w w' => Below w.heap.size w w') (fun w => Below w0.heap.size w0 w) k l
  | [], _, _, _, _, _, _ => trivial
  | o :: l, [], _, hl, _, _, _ => by simp at hl
  | o :: l, r :: rs, k, hl, hr, h, hp => by
    have hrk := hr 0 r rfl
    rw [Nat.add_zero] at hrk
    refine ⟨fun ev yi w hG _ henv => ?_, oblAll_of_grow hout houts hd l rs (k + 1) (by simpa using hl) (fun i r' hi => by rw [← hr (i + 1) r' (by simpa using hi)]; congr 1; omega) h.2 fun i o' r' ho' hr' => hp (i + 1) o' r' (by simpa using ho') (by simpa using hr')⟩
    have := h.1 ev yi w hG henv.const henv.func (outs_say henv outs hout houts) (need_say henv hd _ fun j hj => hp 0 o r rfl rfl j hj)
    simp only [hrk]
    exact this

/-- THE RULE, where memory only grows. 'rows': a row an operation, in the order of the text; 'outs': the slots that are read and not written. -/
theorem wp_region_grow {id : Nat} (rows : List Row) (outs : List (Nat × Value)) (hm : P.follows .mixedOrders = true) (hok : dstsOk ops a0.tmps.size = true) (hac : acyc ops = true) (hrows : rowsOk ops rows = true) (hout : outsOk ops outs = true) (houts : OutsSay a0.eval outs)
    (hobl : OblGAll P w0 rows outs rows ops.toList)
    (hend : ∀ (x : Nat → Value) (w : World), Below w0.heap.size w0 w → (∀ k, k < ops.size → (rowAt rows k).fact.says (x k) w) → Q .normal ⟨layAll ops x 0 ops.toList a0.tmps, a0.defers⟩ w) :
    (Code.region id ops true).wp P Q a0 w0 := by
  simp only [rowsOk, Bool.and_eq_true, beq_iff_eq] at hrows
  have hd : ∀ k, k < ops.size → (rowAt rows k).dst = dstOf ops k := fun k hk => by
    have := List.all_eq_true.1 hrows.2 k (List.mem_range.2 hk)
    simp only [Bool.and_eq_true, beq_iff_eq] at this
    exact this.1
  have hp : ∀ (i : Nat) (o : Oper) (r : Row), ops.toList[i]? = some o → rows[i]? = some r → ∀ j ∈ r.need, j ∈ predsOf o ∧ j < ops.size := by
    intro i o r ho hr j hj
    have ho' : ops[i]? = some o := by simpa using ho
    have hi : i < ops.size := (Array.getElem?_eq_some_iff.1 ho').1
    have h1 := List.all_eq_true.1 hrows.2 i (List.mem_range.2 hi)
    simp only [Bool.and_eq_true] at h1
    have h2 := List.all_eq_true.1 h1.2 j (by rw [rowAt_get rows i r hr]; exact hj)
    simp only [ho', Option.map_some, Option.getD_some] at h2
    have hmem : j ∈ predsOf o := by simpa using h2
    refine ⟨hmem, ?_⟩
    obtain ⟨e, he, rfl⟩ := List.mem_map.1 hmem
    obtain ⟨he1, he2⟩ := List.mem_filter.1 he
    have h := List.all_eq_true.1 hac i (List.mem_range.2 hi)
    have h3 := List.all_eq_true.1 h e (by simpa [ho'] using he1)
    simp only [he2, Bool.not_true, Bool.false_or, decide_eq_true_eq] at h3
    omega
  exact wp_region_mid (F := fun k => (rowAt rows k).fact.says) (E := fun _ _ => True) (R := fun _ w w' => Below w.heap.size w w') (G := fun w => Below w0.heap.size w0 w) hm hok hac (Below.refl _ w0).drew (fun _ _ => trivial)
    (fun _ _ _ _ _ _ _ hR h => Fact.grow h hR) (fun _ _ _ _ _ _ _ _ => trivial) (fun _ _ _ hG hR => hG.trans (hR.mono hG.size))
    (oblAll_of_grow hout houts hd _ rows 0 (by simpa using hrows.1) (fun i r hi => by rw [Nat.zero_add]; exact rowAt_get rows i r hi) hobl hp) hend
end

section
variable {P : Program} {o : Oper} {ev : Operand → Value} {w : World} {post : Value → World → Prop}
/-- A call of a Go function. -/
theorem says_call {f : FuncId} {as : Array Operand} {ts : Array TypeId} {vs : Array Value} (hcall : ∀ args w, (callFunc f args).run P w = .ok (.enter f args) w) (hop : o.op = .call { callee := .value (.func f), args := as, argTypes := ts }) (hf : ∀ f, ev (.func f) = .func (.func f) #[] #[]) (hv : as.map ev = vs)
    (h : Calls P f vs w fun e w'' => ∃ v, e = .returned v ∧ post v w'') : OpSays P o ev w post := by
  subst hv
  have e : (execOp ev o).run P w = .ok (.enter f (as.map ev)) w := by
    simp [execOp, hop, resolve, invoke, hf, go_sem, hcall]
  unfold OpSays
  rw [e]
  exact h
/-- 'string(b)' of bytes that are told of. -/
theorem says_str {src dst e : TypeId} {x : Operand} {l : List UInt8} (hop : o.op = .convert src dst x) (hs : P.underlying src = some (.slice e)) (he : P.underlying e = some (.int .u8)) (hd : P.underlying dst = some .string)
    (h : IsBytes l (ev x) w) (hp : post (.string ⟨l.toArray⟩) w) : OpSays P o ev w post := by
  obtain ⟨A, c, hv, _, hr⟩ := h
  have e : (execOp ev o).run P w = .ok (.value (.string ⟨l.toArray⟩)) w := by
    simp only [execOp, hop, hv, Sem.run_bind, run_str w src dst e hs he hd _ A l c hr _ rfl, Result.andThen_ok, Sem.run_pure]
  unfold OpSays
  rw [e]
  exact hp
end
end Go.Proofs.YtclhgjjehnmncaaDoor
