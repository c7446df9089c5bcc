/- The rule for regions where memory only grows, with slots that are read first and written later. -/
import Derived.Test.YtjncmfoommlldaaBase
namespace Go.Proofs.Ytjncmfoommlldaa
open Go.RowKit

/-- What the operation that writes slot d reads of slots that are written later: (d, the slot, its value). -/
def LateSay (ev : Operand → Value) (d : Nat) : List (Nat × Nat × Value) → Prop
  | [] => True
  | p :: l => (p.1 = d → ev (.tmp p.2.1) = p.2.2) ∧ LateSay ev d l
def AllOuts (a : Act) : List (Nat × Nat × Value) → Prop
  | [] => True
  | p :: l => a.eval (.tmp p.2.1) = p.2.2 ∧ AllOuts a l
def latesOk (ops : Array Oper) (lates : List (Nat × Nat × Value)) : Bool :=
  lates.all fun p => (List.range ops.size).all fun k => dstOf ops k != p.1 || lateOk ops k p.2.1

def OblL (P : Program) (w0 : World) (rows : List Row) (outs : List (Nat × Value)) (lates : List (Nat × Nat × Value)) (r : Row) (o : Oper) : Prop :=
  ∀ (ev : Operand → Value) (yi : Nat → Option Bool) (w : World), Below w0.heap.size w0 w → (∀ c, ev (.const c) = c) → (∀ f, ev (.func f) = .func (.func f) #[] #[]) → OutsSay ev outs → LateSay ev r.dst lates → NeedSay rows ev yi w r.need →
    if Region.wanted o yi = true then OpSays P o ev w (fun v w' => r.fact.says v w' ∧ Below w.heap.size w w') else r.fact.says undef w
def OblLAll (P : Program) (w0 : World) (rows : List Row) (outs : List (Nat × Value)) (lates : List (Nat × Nat × Value)) : List Row → List Oper → Prop
  | r :: rs, o :: os => OblL P w0 rows outs lates r o ∧ OblLAll P w0 rows outs lates rs os
  | _, _ => True
theorem OblLAll.cons {P : Program} {w0 : World} {rows : List Row} {outs : List (Nat × Value)} {lates : List (Nat × Nat × Value)} {r : Row} {rs : List Row} {o : Oper} {os : List Oper} (h : OblL P w0 rows outs lates r o) (hs : OblLAll P w0 rows outs lates rs os) : OblLAll P w0 rows outs lates (r :: rs) (o :: os) := ⟨h, hs⟩
theorem OblLAll.nil {P : Program} {w0 : World} {rows : List Row} {outs : List (Nat × Value)} {lates : List (Nat × Nat × Value)} : OblLAll P w0 rows outs lates [] [] := trivial

section
variable {P : Program} {ops : Array Oper} {a0 : Act} {w0 : World} {Q : Exit → Act → World → Prop}
theorem late_say {F : Nat → Value → World → Prop} {o : Oper} {ev : Operand → Value} {yi : Nat → Option Bool} {w : World} {i : Nat} (henv : Env ops a0 F i o ev yi w) (hi : i < ops.size) : ∀ lates : List (Nat × Nat × Value), latesOk ops lates = true → AllOuts a0 lates → LateSay ev (dstOf ops i) lates
  | [], _, _ => trivial
  | p :: l, hok, h => by
    simp only [latesOk, List.all_cons, Bool.and_eq_true] at hok
    refine ⟨fun e => ?_, late_say henv hi l hok.2 h.2⟩
    have h1 := List.all_eq_true.1 hok.1 i (List.mem_range.2 hi)
    simp only [e, bne_self_eq_false, Bool.false_or] at h1
    exact (henv.late p.2.1 h1).trans h.1
theorem oblAll_of_late {rows : List Row} {outs : List (Nat × Value)} {lates : List (Nat × Nat × Value)} (hout : outsOk ops outs = true) (houts : OutsSay a0.eval outs) (hlate : latesOk ops lates = true) (hlates : AllOuts a0 lates) (hd : ∀ k, k < ops.size → (rowAt rows k).dst = dstOf ops k) :
    ∀ (l : List Oper) (rs : List Row) (k : Nat), k + l.length = ops.size → rs.length = l.length → (∀ i r, rs[i]? = some r → rowAt rows (k + i) = r) → OblLAll P w0 rows outs lates rs l → (∀ (i : Nat) (o : Oper) (r : Row), l[i]? = some o → rs[i]? = some r → ∀ j ∈ r.need, j ∈ predsOf o ∧ j < ops.size) →
    OblAll P ops a0 (fun k => (rowAt rows k).fact.says) (fun _ _ => True) (fun _ w w' => Below w.heap.size w w') (fun w => Below w0.heap.size w0 w) k l
  | [], _, _, _, _, _, _, _ => trivial
  | o :: l, [], _, _, hl, _, _, _ => by simp at hl
  | o :: l, r :: rs, k, hkl, hl, hr, h, hp => by
    have hrk := hr 0 r rfl
    rw [Nat.add_zero] at hrk
    have hk : k < ops.size := by simp at hkl; omega
    refine ⟨fun ev yi w hG _ henv => ?_, oblAll_of_late hout houts hlate hlates hd l rs (k + 1) (by simp at hkl; omega) (by simpa using hl) (fun i r' hi => by rw [← hr (i + 1) r' (by simpa using hi)]; congr 1; omega) h.2 fun i o' r' ho' hr' => hp (i + 1) o' r' (by simpa using ho') (by simpa using hr')⟩
    have hls := late_say henv hk lates hlate hlates
    rw [← hd k hk, hrk] at hls
    have := h.1 ev yi w hG henv.const henv.func (outs_say henv outs hout houts) hls (need_say henv hd _ fun j hj => hp 0 o r rfl rfl j hj)
    simp only [hrk]
    exact this

/-- THE RULE, where memory only grows, and slots are read first and written later. 'lates': (the slot that the reader writes, the slot that it reads, its value). -/
theorem wp_region_late {id : Nat} (rows : List Row) (outs : List (Nat × Value)) (lates : List (Nat × Nat × Value)) (hm : P.follows .mixedOrders = true) (hok : dstsOk ops a0.tmps.size = true) (hac : acyc ops = true) (hrows : rowsOk ops rows = true) (hout : outsOk ops outs = true) (hlate : latesOk ops lates = true) (houts : OutsSay a0.eval outs) (hlates : AllOuts a0 lates)
    (hobl : OblLAll P w0 rows outs lates rows ops.toList)
    (hend : ∀ (x : Nat → Value) (w : World), Below w0.heap.size w0 w → (∀ k, k < ops.size → (rowAt rows k).fact.says (x k) w) → Q .normal ⟨layAll ops x 0 ops.toList a0.tmps, a0.defers⟩ w) :
    (Code.region id ops true).wp P Q a0 w0 := by
  simp only [rowsOk, Bool.and_eq_true, beq_iff_eq] at hrows
  have hd : ∀ k, k < ops.size → (rowAt rows k).dst = dstOf ops k := fun k hk => by
    have := List.all_eq_true.1 hrows.2 k (List.mem_range.2 hk)
    simp only [Bool.and_eq_true, beq_iff_eq] at this
    exact this.1
  have hp : ∀ (i : Nat) (o : Oper) (r : Row), ops.toList[i]? = some o → rows[i]? = some r → ∀ j ∈ r.need, j ∈ predsOf o ∧ j < ops.size := by
    intro i o r ho hr j hj
    have ho' : ops[i]? = some o := by simpa using ho
    have hi : i < ops.size := (Array.getElem?_eq_some_iff.1 ho').1
    have h1 := List.all_eq_true.1 hrows.2 i (List.mem_range.2 hi)
    simp only [Bool.and_eq_true] at h1
    have h2 := List.all_eq_true.1 h1.2 j (by rw [rowAt_get rows i r hr]; exact hj)
    simp only [ho', Option.map_some, Option.getD_some] at h2
    have hmem : j ∈ predsOf o := by simpa using h2
    refine ⟨hmem, ?_⟩
    obtain ⟨e, he, rfl⟩ := List.mem_map.1 hmem
    obtain ⟨he1, he2⟩ := List.mem_filter.1 he
    have h := List.all_eq_true.1 hac i (List.mem_range.2 hi)
    have h3 := List.all_eq_true.1 h e (by simpa [ho'] using he1)
    simp only [he2, Bool.not_true, Bool.false_or, decide_eq_true_eq] at h3
    omega
  exact wp_region_mid (F := fun k => (rowAt rows k).fact.says) (E := fun _ _ => True) (R := fun _ w w' => Below w.heap.size w w') (G := fun w => Below w0.heap.size w0 w) hm hok hac (Below.refl _ w0).drew (fun _ _ => trivial)
    (fun _ _ _ _ _ _ _ hR h => Fact.grow h hR) (fun _ _ _ _ _ _ _ _ => trivial) (fun _ _ _ hG hR => hG.trans (hR.mono hG.size))
    (oblAll_of_late hout houts hlate hlates hd _ rows 0 (by simp) (by simpa using hrows.1) (fun i r hi => by rw [Nat.zero_add]; exact rowAt_get rows i r hi) hobl hp) hend
end
end Go.Proofs.Ytjncmfoommlldaa
