/-
  A region that draws its order, in which some operations, in a row of their own ('calls'), turn the world one behind the other, and all others only read or make memory: G c is what holds once c of them are done. General: no code of the project. · Layer 1: the Writer's contracts once more, wherever its row lies (frame: its own box, and bytes at or above B). Written by gen_bito.py out of BitD's text.
-/
import Derived.Test.YtflcmmeoppdhdaaGreatQ02
import Derived.Test.YtflcmmeoppdhdaaGreatQ05
namespace Go.Proofs.YtflcmmeoppdhdaaGreat
open Go.RowKit

/-- An operation as the prover sees it: its temporary, the operations that it leans on, its value, between how many calls it may stand; 'call': it is that call. -/
structure RowS where
  dst : Nat
  need : List Nat
  val : Value
  lo : Nat
  hi : Nat
  call : Option Nat
def rowS : List RowS → Nat → RowS
  | [], _ => ⟨0, [], undef, 0, 0, none⟩
  | r :: _, 0 => r
  | _ :: l, k + 1 => rowS l k
theorem rowS_get : ∀ (rows : List RowS) (k : Nat) (r : RowS), rows[k]? = some r → rowS rows k = r
  | [], _, _, h => by simp at h
  | _ :: _, 0, _, h => by simpa [rowS] using h
  | _ :: l, k + 1, r, h => rowS_get l k r (by simpa using h)
/-- How many calls are done at least, once it is done. -/
def RowS.lo2 (r : RowS) : Nat := match r.call with | some i => i + 1 | none => r.lo
def RowS.hi2 (r : RowS) : Nat := match r.call with | some i => i | none => r.hi
def NeedV (rows : List RowS) (ev : Operand → Value) (yi : Nat → Option Bool) : List Nat → Prop
  | [] => True
  | j :: l => ev (.tmp (rowS rows j).dst) = (rowS rows j).val ∧ yi j = boolOf (rowS rows j).val ∧ NeedV rows ev yi l
/-- Do the rows speak of these operations, and of r calls in order? -/
def rowsSOk (ops : Array Oper) (rows : List RowS) (r : Nat) : Bool :=
  rows.length == ops.size && (List.range ops.size).all fun k =>
    (rowS rows k).dst == dstOf ops k && ((rowS rows k).need.all fun j => ((ops[k]?).map fun o => (predsOf o).contains j).getD false) &&
    (match (rowS rows k).call with
      | some i => decide (i < r) && (decide (i = 0) || (((ops[k]?).map fun o => (predsOf o).any fun j => decide (i ≤ (rowS rows j).lo2)).getD false)) && ((List.range ops.size).all fun j => j == k || (rowS rows j).call != some i)
      | none => (decide ((rowS rows k).lo = 0) || (((ops[k]?).map fun o => (predsOf o).any fun j => decide ((rowS rows k).lo ≤ (rowS rows j).lo2)).getD false)) &&
          (decide ((rowS rows k).hi = r) || (List.range ops.size).any fun m => decide ((rowS rows m).hi2 ≤ (rowS rows k).hi) && (((ops[m]?).map fun o => (predsOf o).contains k).getD false)))
def lastCall (rows : List RowS) (r : Nat) : Bool := r == 0 || rows.any fun x => x.call == some (r - 1)

section
variable {P : Program} {ops : Array Oper} {a0 : Act} {rows : List RowS} {r : Nat} {G : Nat → World → Prop} {Q : Exit → Act → World → Prop}
def OblS (P : Program) (G : Nat → World → Prop) (rows : List RowS) (outs : List (Nat × Value)) (x : RowS) (o : Oper) : Prop :=
  ∀ (ev : Operand → Value) (yi : Nat → Option Bool) (w : World) (c : Nat), G c w → (match x.call with | some i => c = i | none => x.lo ≤ c ∧ c ≤ x.hi) → (∀ c, ev (.const c) = c) → (∀ f, ev (.func f) = .func (.func f) #[] #[]) → OutsSay ev outs → NeedV rows ev yi x.need →
    if Region.wanted o yi = true then OpSays P o ev w (fun v w' => v = x.val ∧ G (match x.call with | some i => i + 1 | none => c) w') else x.val = undef ∧ G (match x.call with | some i => i + 1 | none => c) w
def OblSAll (P : Program) (G : Nat → World → Prop) (rows : List RowS) (outs : List (Nat × Value)) : List RowS → List Oper → Prop
  | x :: rs, o :: os => OblS P G rows outs x o ∧ OblSAll P G rows outs rs os
  | _, _ => True
theorem OblSAll.cons {P : Program} {G : Nat → World → Prop} {rows : List RowS} {outs : List (Nat × Value)} {x : RowS} {rs : List RowS} {o : Oper} {os : List Oper} (h : OblS P G rows outs x o) (hs : OblSAll P G rows outs rs os) : OblSAll P G rows outs (x :: rs) (o :: os) := ⟨h, hs⟩
theorem OblSAll.nil {P : Program} {G : Nat → World → Prop} {rows : List RowS} {outs : List (Nat × Value)} : OblSAll P G rows outs [] [] := trivial
theorem OblSAll.at_ {rows : List RowS} {outs : List (Nat × Value)} : ∀ (rs : List RowS) (l : List Oper), OblSAll P G rows outs rs l → ∀ (k : Nat) (x : RowS) (o : Oper), rs[k]? = some x → l[k]? = some o → OblS P G rows outs x o
  | [], _, _, _, _, _, h, _ => by simp at h
  | _ :: _, [], _, _, _, _, _, h => by simp at h
  | x :: rs, o :: l, h, 0, _, _, hx, ho => by simp at hx ho; subst hx ho; exact h.1
  | x :: rs, o :: l, h, k + 1, _, _, hx, ho => OblSAll.at_ rs l h.2 k _ _ (by simpa using hx) (by simpa using ho)

/-- What holds between two operations. -/
structure MidS (ops : Array Oper) (a0 : Act) (rows : List RowS) (r : Nat) (G : Nat → World → Prop) (listed : Array Bool) (a : Act) (w : World) (c : Nat) : Prop where
  size : listed.size = ops.size
  defers : a.defers = a0.defers
  tmps : a.tmps.size = a0.tmps.size
  out : ∀ t, (List.range ops.size).all (fun k => dstOf ops k != t) = true → a.tmps[t]? = a0.tmps[t]?
  closed : ∀ k o, ops[k]? = some o → listed.getD k false = true → ∀ j ∈ predsOf o, listed.getD j false = true
  done : ∀ k, listed.getD k false = true → a.eval (.tmp (dstOf ops k)) = (rowS rows k).val
  lows : ∀ k, listed.getD k false = true → (rowS rows k).lo2 ≤ c
  highs : ∀ k, k < ops.size → listed.getD k false = false → c ≤ (rowS rows k).hi2
  most : c ≤ r
  glob : G c w

theorem rowS_ok (hrows : rowsSOk ops rows r = true) {k : Nat} {o : Oper} (ho : ops[k]? = some o) :
    (rowS rows k).dst = dstOf ops k ∧ (∀ j ∈ (rowS rows k).need, j ∈ predsOf o) ∧
    (∀ i, (rowS rows k).call = some i → i < r ∧ (i = 0 ∨ ∃ j ∈ predsOf o, i ≤ (rowS rows j).lo2) ∧ ∀ j, j < ops.size → j ≠ k → (rowS rows j).call ≠ some i) ∧
    ((rowS rows k).call = none → ((rowS rows k).lo = 0 ∨ ∃ j ∈ predsOf o, (rowS rows k).lo ≤ (rowS rows j).lo2) ∧ ((rowS rows k).hi = r ∨ ∃ m o', ops[m]? = some o' ∧ (rowS rows m).hi2 ≤ (rowS rows k).hi ∧ k ∈ predsOf o')) := by
  have hk : k < ops.size := (Array.getElem?_eq_some_iff.1 ho).1
  simp only [rowsSOk, Bool.and_eq_true] at hrows
  have h := List.all_eq_true.1 hrows.2 k (List.mem_range.2 hk)
  simp only [Bool.and_eq_true, beq_iff_eq, ho, Option.map_some, Option.getD_some] at h
  obtain ⟨⟨h1, h2⟩, h3⟩ := h
  refine ⟨h1, fun j hj => by simpa using List.all_eq_true.1 h2 j hj, fun i hi => ?_, fun hn => ?_⟩
  · rw [hi] at h3
    simp only [Bool.and_eq_true, decide_eq_true_eq, Bool.or_eq_true, List.any_eq_true] at h3
    obtain ⟨⟨h4, h5⟩, h6⟩ := h3
    refine ⟨h4, h5, fun j hj hne => ?_⟩
    have := List.all_eq_true.1 h6 j (List.mem_range.2 hj)
    simp only [Bool.or_eq_true, beq_iff_eq, bne_iff_ne] at this
    rcases this with h | h
    · exact absurd h hne
    · exact h
  · rw [hn] at h3
    simp only [Bool.and_eq_true, decide_eq_true_eq, Bool.or_eq_true, List.any_eq_true] at h3
    refine ⟨h3.1, h3.2.imp id ?_⟩
    rintro ⟨m, hm, h7, h8⟩
    have hm' := List.mem_range.1 hm
    have e : ops[m]? = some ops[m] := by simp [hm']
    refine ⟨m, ops[m], e, h7, ?_⟩
    rw [e] at h8
    simpa using h8

/-- One operation more. -/
theorem MidS.step (hok : dstsOk ops a0.tmps.size = true) (hac : acyc ops = true) (hrows : rowsSOk ops rows r = true)
    {listed : Array Bool} {a : Act} {w w' : World} {c : Nat} (hM : MidS ops a0 rows r G listed a w c) {i : Nat} {o : Oper} (ho : ops[i]? = some o) (hun : listed.getD i true = false) (hp : ∀ j ∈ predsOf o, listed.getD j false = true)
    {v : Value} (hv : v = (rowS rows i).val) {c' : Nat} (hc' : c' = match (rowS rows i).call with | some _ => c + 1 | none => c) (hci : ∀ q, (rowS rows i).call = some q → c = q) (hG : G c' w') :
    MidS ops a0 rows r G (listed.setIfInBounds i true) (a.put o.dst v) w' c' := by
  obtain ⟨hd, hdlt⟩ := dst_of_ok hok ho
  have hi : i < ops.size := (Array.getElem?_eq_some_iff.1 ho).1
  rw [hd]
  have hset : ∀ k, listed.getD k false = true → (listed.setIfInBounds i true).getD k false = true := by
    intro k hk
    by_cases e : k = i
    · subst e; simp [Array.getD_eq_getD_getElem?, hM.size, hi]
    · simpa [Array.getD_eq_getD_getElem?, Array.getElem?_setIfInBounds_ne (Ne.symm e)] using hk
  have hback : ∀ k, k ≠ i → (listed.setIfInBounds i true).getD k false = listed.getD k false := by
    intro k hk
    simp [Array.getD_eq_getD_getElem?, Array.getElem?_setIfInBounds_ne (Ne.symm hk)]
  have hself : (listed.setIfInBounds i true).getD i false = true := by simp [Array.getD_eq_getD_getElem?, hM.size, hi]
  have hmono : c ≤ c' := by
    cases hcl : (rowS rows i).call with
    | none => rw [hcl] at hc'; simp only at hc'; omega
    | some q => rw [hcl] at hc'; simp only at hc'; omega
  obtain ⟨r1, r2, r3, r4⟩ := rowS_ok hrows ho
  refine ⟨by simpa using hM.size, hM.defers, by simpa [Act.put] using hM.tmps, fun t ht => ?_, fun k o' ho' hk j hj => ?_, fun k hk => ?_, fun k hk => ?_, ?_, ?_, hG⟩
  · rw [← hM.out t ht]
    simp [Act.put, Array.getElem?_setIfInBounds_ne (not_dst ht hi)]
  · by_cases hki : k = i
    · subst hki
      rw [ho] at ho'
      injection ho' with ho'
      subst ho'
      exact hset j (hp j hj)
    · exact hset j (hM.closed k o' ho' (by rw [← hback k hki]; exact hk) j hj)
  · by_cases hki : k = i
    · subst hki
      rw [eval_put_same (by rw [hM.tmps]; exact hdlt)]
      exact hv
    · have hk' : listed.getD k false = true := by rw [← hback k hki]; exact hk
      have hklt : k < ops.size := by
        rcases Nat.lt_or_ge k ops.size with g | g
        · exact g
        · rw [← hM.size] at g; simp [Array.getD_eq_getD_getElem?, Array.getElem?_eq_none g] at hk'
      rw [eval_put_ne (dst_ne hok hi hklt (Ne.symm hki))]
      exact hM.done k hk'
  · by_cases hki : k = i
    · subst hki
      cases hcl : (rowS rows k).call with
      | some q =>
        have := hci q hcl
        rw [hcl] at hc'
        simp only at hc'
        simp only [RowS.lo2, hcl]
        omega
      | none =>
        simp only [RowS.lo2, hcl]
        rcases (r4 hcl).1 with h | ⟨j, hj, h⟩
        · omega
        · have := hM.lows j (hp j hj); omega
    · have := hM.lows k (by rw [← hback k hki]; exact hk); omega
  · cases hcl : (rowS rows i).call with
    | none =>
      rw [hcl] at hc'
      simp only at hc'
      subst hc'
      intro k hk hkf
      have hki : k ≠ i := by rintro rfl; rw [hself] at hkf; cases hkf
      exact hM.highs k hk (by rw [← hback k hki]; exact hkf)
    | some q =>
      rw [hcl] at hc'
      simp only at hc'
      have hcq := hci q hcl
      obtain ⟨hqr, -, huniq⟩ := r3 q hcl
      have key : ∀ d k, ops.size - k ≤ d → k < ops.size → (listed.setIfInBounds i true).getD k false = false → c' ≤ (rowS rows k).hi2 := by
        intro d
        induction d with
        | zero => intro k h1 h2; omega
        | succ d ih =>
          intro k h1 hk hkf
          have hki : k ≠ i := by rintro rfl; rw [hself] at hkf; cases hkf
          have hkf' : listed.getD k false = false := by rw [← hback k hki]; exact hkf
          have hhi := hM.highs k hk hkf'
          have hok' : ops[k]? = some ops[k] := by simp [hk]
          obtain ⟨-, -, -, s4⟩ := rowS_ok hrows hok'
          cases hck : (rowS rows k).call with
          | some p =>
            simp only [RowS.hi2, hck] at hhi ⊢
            have : p ≠ q := fun e => huniq k hk hki (by rw [hck, e])
            omega
          | none =>
            simp only [RowS.hi2, hck]
            rcases (s4 hck).2 with h | ⟨m, o', hm, h5, h6⟩
            · omega
            · have hml : m < ops.size := (Array.getElem?_eq_some_iff.1 hm).1
              have hkm : k < m := by
                obtain ⟨e, he, hek⟩ := List.mem_map.1 h6
                obtain ⟨he1, he2⟩ := List.mem_filter.1 he
                have h := List.all_eq_true.1 hac m (List.mem_range.2 hml)
                have h3 := List.all_eq_true.1 h e (by simpa [hm] using he1)
                simp only [he2, Bool.not_true, Bool.false_or, decide_eq_true_eq] at h3
                omega
              have hmf : (listed.setIfInBounds i true).getD m false = false := by
                cases hl : (listed.setIfInBounds i true).getD m false with
                | false => rfl
                | true =>
                  exfalso
                  by_cases hmi : m = i
                  · subst hmi
                    rw [ho] at hm
                    injection hm with hm
                    subst hm
                    have := hp k h6
                    rw [hkf'] at this; cases this
                  · have := hM.closed m o' hm (by rw [← hback m hmi]; exact hl) k h6
                    rw [hkf'] at this; cases this
              have := ih m (by omega) hml hmf
              omega
      exact fun k hk hkf => key (ops.size - k) k (Nat.le_refl _) hk hkf
  · cases hcl : (rowS rows i).call with
    | none => rw [hcl] at hc'; simp only at hc'; rw [hc']; exact hM.most
    | some q => rw [hcl] at hc'; simp only at hc'; have := hci q hcl; have := (r3 q hcl).1; omega
theorem needV_say {listed : Array Bool} {a : Act} {w : World} {c : Nat} (hM : MidS ops a0 rows r G listed a w c) (hok : dstsOk ops a0.tmps.size = true) (hrows : rowsSOk ops rows r = true) :
    ∀ l : List Nat, (∀ j ∈ l, listed.getD j false = true) → NeedV rows a.eval (yielded ops a.tmps) l
  | [], _ => trivial
  | j :: l, h => by
    have hj := h j (by simp)
    have hjl : j < ops.size := by
      rcases Nat.lt_or_ge j ops.size with g | g
      · exact g
      · rw [← hM.size] at g; simp [Array.getD_eq_getD_getElem?, Array.getElem?_eq_none g] at hj
    have hoj : ops[j]? = some ops[j] := by simp [hjl]
    obtain ⟨h1, h2⟩ := dst_of_ok hok hoj
    have hdn := hM.done j hj
    have hsz : dstOf ops j < a.tmps.size := by rw [hM.tmps]; exact h2
    refine ⟨by rw [(rowS_ok hrows hoj).1]; exact hdn, ?_, needV_say hM hok hrows l fun i hi => h i (by simp [hi])⟩
    rw [← hdn]
    simp only [yielded, hoj, Option.bind_some, h1, Act.eval]
    simp only [Array.getD_eq_getD_getElem?, Array.getElem?_eq_getElem hsz, Option.getD_some]
    generalize a.tmps[dstOf ops j] = u
    cases u <;> rfl
theorem outsS_say {listed : Array Bool} {a : Act} {w : World} {c : Nat} (hM : MidS ops a0 rows r G listed a w c) : ∀ outs : List (Nat × Value), outsOk ops outs = true → OutsSay a0.eval outs → OutsSay a.eval outs
  | [], _, _ => trivial
  | p :: l, hok, h => by
    simp only [outsOk, List.all_cons, Bool.and_eq_true] at hok
    refine ⟨?_, outsS_say hM l hok.2 h.2⟩
    have := hM.out p.1 hok.1
    rw [← h.1]
    simp [Act.eval, Array.getD_eq_getD_getElem?, this]
theorem wpAny_seq {outs : List (Nat × Value)} (hok : dstsOk ops a0.tmps.size = true) (hac : acyc ops = true) (hrows : rowsSOk ops rows r = true) (hlast : lastCall rows r = true) (hout : outsOk ops outs = true) (houts : OutsSay a0.eval outs) (hobl : OblSAll P G rows outs rows ops.toList)
    (hend : ∀ w : World, G r w → Q .normal ⟨layAll ops (fun k => (rowS rows k).val) 0 ops.toList a0.tmps, a0.defers⟩ w) :
    ∀ (fuel : Nat) (listed : Array Bool) (a : Act) (w : World) (c : Nat), unlisted listed ≤ fuel → MidS ops a0 rows r G listed a w c → wpAny P .any ops Q fuel listed a w := by
  have hlen : rows.length = ops.size := by
    simp only [rowsSOk, Bool.and_eq_true, beq_iff_eq] at hrows
    exact hrows.1
  have last : ∀ (listed : Array Bool) (a : Act) (w : World) (c : Nat), MidS ops a0 rows r G listed a w c → Region.ready .any ops listed = [] → Q .normal a w := by
    intro listed a w c hM hr
    have hall := all_listed hac hM.size hr
    have hc : c = r := by
      refine Nat.le_antisymm hM.most ?_
      simp only [lastCall, Bool.or_eq_true, beq_iff_eq, List.any_eq_true] at hlast
      rcases hlast with h | ⟨x, hx, hxc⟩
      · omega
      · obtain ⟨k, hk, hkx⟩ := List.mem_iff_getElem.1 hx
        have hrk : rowS rows k = x := rowS_get rows k x (by rw [List.getElem?_eq_getElem hk, hkx])
        have := hM.lows k (hall k (by omega))
        rw [hrk] at this
        simp only [RowS.lo2, hxc] at this
        omega
    subst hc
    have h := hend w hM.glob
    have e : a = ⟨layAll ops (fun k => (rowS rows k).val) 0 ops.toList a0.tmps, a0.defers⟩ := by
      obtain ⟨t, ds⟩ := a
      have hd : ds = a0.defers := hM.defers
      subst hd
      congr 1
      apply Array.ext_getElem?
      intro d
      by_cases hin : (List.range ops.size).all (fun k => dstOf ops k != d) = true
      · rw [layAll_get _ _ d _ 0 _ (fun k o ho => by
          have ho' : ops[k]? = some o := by simpa using ho
          rw [(dst_of_ok hok ho').1]
          intro e'
          injection e' with e'
          exact not_dst hin (Array.getElem?_eq_some_iff.1 ho').1 e')]
        exact hM.out d hin
      · obtain ⟨k, hk, hkd⟩ : ∃ k, k < ops.size ∧ dstOf ops k = d := by
          apply Classical.byContradiction
          intro hno
          refine hin (List.all_eq_true.2 fun k hk => ?_)
          rw [bne_iff_ne]
          exact fun e' => hno ⟨k, List.mem_range.1 hk, e'⟩
        have ho : ops[k]? = some ops[k] := by simp [hk]
        have hdk := dst_of_ok hok ho
        rw [hkd] at hdk
        rw [layAll_here _ _ d _ 0 _ k ops[k] (by simp [hk]) hdk.1 hdk.2 (fun j o' ho' hj => by
          have ho2 : ops[j]? = some o' := by simpa using ho'
          rw [(dst_of_ok hok ho2).1]
          intro e'
          injection e' with e'
          exact dst_ne hok (Array.getElem?_eq_some_iff.1 ho2).1 hk hj (e'.trans hkd.symm))]
        have hsz : d < t.size := by have := hM.tmps; simp only at this; rw [this]; exact hdk.2
        have hdn := hM.done k (hall k hk)
        rw [hkd] at hdn
        simp only [Act.eval, Array.getD_eq_getD_getElem?, Array.getElem?_eq_getElem hsz, Option.getD_some] at hdn
        rw [Array.getElem?_eq_getElem hsz, hdn, Nat.zero_add]
    rw [← e] at h
    exact h
  intro fuel
  induction fuel with
  | zero =>
    intro listed a w c hc hM
    have hr : Region.ready .any ops listed = [] := by
      apply List.eq_nil_iff_forall_not_mem.2
      intro i hi
      obtain ⟨hun, o, ho, _⟩ := mem_ready.1 hi
      have hi' : i < ops.size := (Array.getElem?_eq_some_iff.1 ho).1
      have : false ∈ (listed.toList.filter fun b => !b) := by
        rw [List.mem_filter]
        refine ⟨?_, rfl⟩
        have h2 : listed[i]? = some false := by
          simp [Array.getD_eq_getD_getElem?, hM.size, hi'] at hun
          simp [hM.size, hi', hun]
        exact Array.mem_toList_iff.2 (Array.mem_of_getElem? h2)
      have h3 : (listed.toList.filter fun b => !b) = [] := List.eq_nil_of_length_eq_zero (Nat.le_zero.1 hc)
      rw [h3] at this
      cases this
    exact ⟨hr, last listed a w c hM hr⟩
  | succ fuel ih =>
    intro listed a w c hc hM
    refine ⟨last listed a w c hM, fun i hi => ?_⟩
    obtain ⟨hun, o, ho, hall⟩ := mem_ready.1 hi
    have hi' : i < ops.size := (Array.getElem?_eq_some_iff.1 ho).1
    have hfalse : listed[i]? = some false := by
      simp [Array.getD_eq_getD_getElem?, hM.size, hi'] at hun
      simp [hM.size, hi', hun]
    have hf0 : listed.getD i false = false := by simp [Array.getD_eq_getD_getElem?, hfalse]
    have hc' : unlisted (listed.setIfInBounds i true) ≤ fuel := by
      have := unlisted_set listed.toList i (by simpa using hfalse)
      unfold unlisted at hc ⊢
      rw [Array.toList_setIfInBounds]
      omega
    have hri : rows[i]? = some (rowS rows i) := by
      have : rows[i]? = some rows[i] := List.getElem?_eq_getElem (by omega)
      rw [this, rowS_get rows i _ this]
    have hpr : ∀ j ∈ predsOf o, listed.getD j false = true := by
      intro j hj
      obtain ⟨e, he, rfl⟩ := List.mem_map.1 hj
      obtain ⟨he1, he2⟩ := List.mem_filter.1 he
      exact hall e (Array.mem_toList_iff.1 he1) he2
    obtain ⟨s1, s2, s3, s4⟩ := rowS_ok hrows ho
    have hhi := hM.highs i hi' hf0
    have hcall : ∀ q, (rowS rows i).call = some q → c = q := by
      intro q hq
      simp only [RowS.hi2, hq] at hhi
      obtain ⟨-, h5, -⟩ := s3 q hq
      rcases h5 with h5 | ⟨j, hj, h5⟩
      · omega
      · have := hM.lows j (hpr j hj); omega
    have hrange : match (rowS rows i).call with | some q => c = q | none => (rowS rows i).lo ≤ c ∧ c ≤ (rowS rows i).hi := by
      cases hcl : (rowS rows i).call with
      | some q => exact hcall q hcl
      | none =>
        simp only [RowS.hi2, hcl] at hhi
        refine ⟨?_, hhi⟩
        rcases (s4 hcl).1 with h5 | ⟨j, hj, h5⟩
        · omega
        · have := hM.lows j (hpr j hj); omega
    have hob := hobl.at_ rows ops.toList i _ o hri (by simpa using ho) a.eval (yielded ops a.tmps) w c hM.glob hrange (fun _ => rfl) (fun _ => rfl) (outsS_say hM outs hout houts) (needV_say hM hok hrows _ fun j hj => hpr j (s2 j hj))
    have hnext : (match (rowS rows i).call with | some q => q + 1 | none => c) = (match (rowS rows i).call with | some _ => c + 1 | none => c) := by
      cases hcl : (rowS rows i).call with
      | some q => have := hcall q hcl; simp only; omega
      | none => rfl
    rw [hnext] at hob
    unfold wpOp
    simp only [ho]
    by_cases hw : Region.wanted o (yielded ops a.tmps) = true
    · rw [if_pos hw] at hob ⊢
      exact .inl (hob.wp fun v w' hp => ih _ _ _ _ hc' (hM.step hok hac hrows ho hun hpr hp.1 rfl hcall hp.2))
    · rw [if_neg hw] at hob ⊢
      exact ih _ _ _ _ hc' (hM.step hok hac hrows ho hun hpr hob.1.symm rfl hcall hob.2)
end
section
variable {P : Program} {o : Oper} {ev : Operand → Value} {w : World} {post : Value → World → Prop}
end
end Go.Proofs.YtflcmmeoppdhdaaGreat
namespace Go.Proofs.YtflcmmeoppdhdaaGreat
open Go.RowKit

/-- At block g lies a Writer that has the bits l, in a row of its own at or above B. -/
def WrO (w : World) (B g : Nat) (l : List Bool) : Prop :=
  ∃ v bs, Blk w g 159 [v, .int .i64 l.length] ∧ B ≤ w.heap.size ∧ w.ownsRow B 5 1 v bs.length (bvs bs) ∧ Packs bs l
/-- Only the box g, and bytes at or above B, are turned. -/
structure OnlyO (B g : Nat) (w w' : World) : Prop where
  os : w'.os = w.os
  tape : w'.tape = w.tape
  output : w'.output = w.output
  size : w.heap.size ≤ w'.heap.size
  block : ∀ k, k < w.heap.size → k ≠ g → (k < B ∨ ¬ OfType w k 5) → w'.heap[k]? = w.heap[k]?
section
variable {B g : Nat} {w w' w'' : World}
theorem OnlyO.refl (B g : Nat) (w : World) : OnlyO B g w w := ⟨rfl, rfl, rfl, Nat.le_refl _, fun _ _ _ _ => rfl⟩
theorem OnlyO.trans (h : OnlyO B g w w') (h' : OnlyO B g w' w'') : OnlyO B g w w'' :=
  ⟨h'.os.trans h.os, h'.tape.trans h.tape, h'.output.trans h.output, Nat.le_trans h.size h'.size, fun k hk hg hn => by
    have e := h.block k hk hg hn
    refine (h'.block k (Nat.lt_of_lt_of_le hk h.size) hg ?_).trans e
    rcases hn with hn | hn
    · exact .inl hn
    · refine .inr fun ho => hn ?_
      obtain ⟨cs, fr, ho⟩ := ho
      exact ⟨cs, fr, e ▸ ho⟩⟩
theorem OnlyO.drew (h : OnlyO B g w w') : OnlyO B g w w'.drew := ⟨h.os, h.tape, h.output, h.size, h.block⟩
theorem OnlyO.of_only (h : OnlyT B [5] w w') : OnlyO B g w w' := ⟨h.os, h.tape, h.output, h.size, fun k hk _ hn => h.block k hk (hn.imp id fun q t ht => by rw [List.mem_singleton.1 ht]; exact q)⟩
theorem OnlyO.of_below (h : Below w.heap.size w w') : OnlyO B g w w' := ⟨h.os, h.tape, h.output, h.size, fun k hk _ _ => h.block k hk⟩
theorem OnlyO.set_g (i : Nat) (u : Value) : OnlyO B g w (w.setCell ⟨g, i, none⟩ u) := ⟨rfl, rfl, rfl, by simp [World.setCell], fun k _ hg _ => Below.heap_setCell w _ u k (by simpa using hg)⟩
theorem OnlyO.set_new (h : OnlyO B g w w') {p : Addr} (hp : w.heap.size ≤ p.block) (u : Value) : OnlyO B g w (w'.setCell p u) :=
  ⟨h.os, h.tape, h.output, by simpa [World.setCell] using h.size, fun k hk hg hn => (Below.heap_setCell w' p u k (by omega)).trans (h.block k hk hg hn)⟩
theorem OnlyO.blkT {r : Nat} {t : TypeId} {cs : List Value} (h : OnlyO B g w w') (hb : Blk w r t cs) (ht : t ≠ 5) (hg : r ≠ g) : Blk w' r t cs := (h.block r hb.lt hg (.inr fun ho => hb.ofType.ne ht ho)).trans hb
theorem WrO.lt {l : List Bool} (h : WrO w B g l) : g < w.heap.size ∧ B ≤ w.heap.size := by
  obtain ⟨v, bs, h1, h0, -⟩ := h
  exact ⟨h1.lt, h0⟩
theorem OnlyO.below (h : OnlyO B g w w') {n : Nat} (hn : n ≤ B) (hg : n ≤ g) (hs : n ≤ w.heap.size) : Below n w w' := ⟨h.os, h.tape, h.output, h.size, fun k hk => h.block k (by omega) (by omega) (.inl (by omega))⟩
theorem WrO.kept {l : List Bool} (h : WrO w B g l) (hb : Below w.heap.size w w') : WrO w' B g l := by
  obtain ⟨v, bs, h1, h0, h2, h3⟩ := h
  exact ⟨v, bs, h1.grow hb, Nat.le_trans h0 hb.size, own_kept h2 hb, h3⟩
/-- Another box of another kind is turned. -/
theorem WrO.set_ {l : List Bool} {r i : Nat} {t : TypeId} {cs : List Value} (h : WrO w B g l) (hb : Blk w r t cs) (hg : r ≠ g) (ht : 5 ≠ t) (u : Value) : WrO (w.setCell ⟨r, i, none⟩ u) B g l := by
  obtain ⟨v, bs, h1, h0, h2, h3⟩ := h
  have ho : OnlyT 0 [t] w (w.setCell ⟨r, i, none⟩ u) := OnlyT.set_ hb (Nat.zero_le _) _ (by simp)
  exact ⟨v, bs, h1.setOther ⟨r, i, none⟩ u (by simpa using Ne.symm hg), by simpa [World.setCell] using h0, own_only h2 ho (by simpa using ht), h3⟩
theorem WrO.new (h : Blk w g 159 [.slice none 0 0, .int .i64 0]) (hB : B ≤ w.heap.size) : WrO w B g [] := ⟨_, [], h, hB, World.ownsRow_nil _ _ _ _, Packs.nil⟩
end
theorem layO_end {w : World} {B g r c n : Nat} {bs bs' : List UInt8} {l : List Bool} {b : Bool} {x : UInt8} {u : Value}
    (hblk : Blk w g 159 [.slice (some ⟨r, 0, none⟩) bs'.length c, u]) (hBg : B ≤ w.heap.size) (hown : w.ownsRow B 5 1 (.slice (some ⟨r, 0, none⟩) bs'.length c) bs'.length (bvs bs'))
    (hn : n = l.length) (hp : Packs bs l) (hbs : bs' = if l.length % 8 = 0 then bs ++ [0] else bs) (hx : bs'[n / 8]? = some x) :
    WrO ((w.setCell ⟨r, n / 8, none⟩ (.int .u8 (bits .or .u8 (x.toNat : Int) ((b.toNat : Int) * 2 ^ (n % 8) % 256)))).setCell ⟨g, 1, none⟩ (.int .i64 ((n : Int) + 1))).drew B g (l ++ [b]) ∧
    OnlyO B g w ((w.setCell ⟨r, n / 8, none⟩ (.int .u8 (bits .or .u8 (x.toNat : Int) ((b.toNat : Int) * 2 ^ (n % 8) % 256)))).setCell ⟨g, 1, none⟩ (.int .i64 ((n : Int) + 1))).drew := by
  obtain ⟨c8, he, hc8⟩ := or_bit x b (n % 8) (by omega)
  rw [he]
  obtain ⟨hst, hgr⟩ := hown.stored (n / 8) (.int .u8 c8.toNat)
  rw [bvs_set] at hst
  have ho1 : OnlyT B [5] w (w.setCell ⟨r, n / 8, none⟩ (.int .u8 c8.toNat)) := OnlyT.grown (e := 5) hgr (fun k hk => by injection hk with hk; subst hk; exact own_type hown r rfl) (by simp)
  have hblk1 := hblk.only ho1 (by decide)
  have ho2 : OnlyT 0 [159] (w.setCell ⟨r, n / 8, none⟩ (.int .u8 c8.toNat)) ((w.setCell ⟨r, n / 8, none⟩ (.int .u8 c8.toNat)).setCell ⟨g, 1, none⟩ (.int .i64 ((n : Int) + 1))) := OnlyT.set_ hblk1 (Nat.zero_le _) _ (by simp)
  have hst2 := own_only hst ho2 (by decide)
  have hblk2 := hblk1.set_ 1 (.int .i64 ((n : Int) + 1))
  have hsz : (bs'.set (n / 8) c8).length = bs'.length := by simp
  refine ⟨⟨.slice (some ⟨r, 0, none⟩) bs'.length c, bs'.set (n / 8) c8, ?_, by simpa [World.setCell] using hBg, by rw [hsz]; exact hst2, ?_⟩, ((OnlyO.of_only ho1).trans (OnlyO.set_g _ _)).drew⟩
  · have e : ((l ++ [b]).length : Int) = (n : Int) + 1 := by rw [hn]; simp
    rw [e]
    exact hblk2
  · subst hn
    exact hp.snoc b bs' hbs c8 (by rw [hc8, List.getD_eq_getElem?_getD, hx]; rfl)

set_option maxHeartbeats 1000000 in
set_option maxRecDepth 100000 in
theorem layO_any (g B : Nat) (l : List Bool) (b : Bool) (w : World) (h : WrO w B g l) (hl : l.length < 1000000000) :
    Calls Tryz.prog 203 #[.pointer (some ⟨g, 0, none⟩), .int .u8 b.toNat] w fun e w' => e = .returned (.tuple #[]) ∧ WrO w' B g (l ++ [b]) ∧ OnlyO B g w w' := by
  obtain ⟨i0, hi, hz0, hz1, hz2⟩ := info_parts info_u8'
  obtain ⟨v, bs, hblk, hBg, hown, hp⟩ := h
  obtain ⟨n, hn⟩ : ∃ n, n = l.length := ⟨_, rfl⟩
  rw [← hn] at hblk hl
  have hlen : bs.length = (n + 7) / 8 := by rw [hn]; exact hp.1
  have HN := Lib.hid hn
  have HP := Lib.hid hp
  clear hn hp
  by_cases h8 : n % 8 = 0
  · have hn0 : ((n : Int) % 8 == 0) = true := by rw [beq_iff_eq]; omega
    have hlb : bs.length ≤ 200000000 := by omega
    have hc0 := hblk.cell 0
    have hc1 := hblk.cell 1
    simp only [List.getElem?_cons_zero, List.getElem?_cons_succ] at hc0 hc1
    have hf0 := hblk.frozen 0
    have hf1 := hblk.frozen 1
    have hgs := hblk.lt
    have H8 := Lib.hid h8
    have HLEN := Lib.hid hlen
    have HBLK := Lib.hid hblk
    have HOWN := Lib.hid hown
    clear hlen hblk hown h8
    go_enter Tryz.func203, Tryz.ntmps203
    go_wp2_with (at_builtin; go_must (refine wpList_app rfl (.tmp 14) (.tmp 15) 22 rfl B 5 i0 (.int .u8 0) 1 1 Tryz.underlying22 hi hz0 hz1 hz2 rfl (by decide) _ _ _ rfl (HOWN.out.alloc _) _ _ 1 1 _ rfl (Rd.new _ _ _) rfl (by intro u hu; simp at hu; subst hu; rfl) (by simp only [maxLen]; omega) (by omega) (by simp; omega) ?_; intro v1 w1 hown1 hg1; obtain ⟨A1, c1, rfl, hn1, -, hA1⟩ := own_form hown1; have ho1 : OnlyT B [5] w w1 := (OnlyT.of_below ((Below.refl _ _).alloc (Nat.le_refl _) _)).trans (OnlyT.grown hg1 (own_type (HOWN.out.alloc _)) (by simp)); have hblk1 := HBLK.out.only ho1 (by decide); have hd0 := hblk1.cell 0; have hd1 := hblk1.cell 1; simp only [List.getElem?_cons_zero, List.getElem?_cons_succ] at hd0 hd1; have he0 := hblk1.frozen 0; have he1 := hblk1.frozen 1))
    obtain ⟨r, rfl, hBr, hr⟩ : ∃ r, A1 = some ⟨r, 0, none⟩ ∧ B ≤ r ∧ r < w1.heap.size := by
      rcases hA1 with h0 | h0
      · omega
      · exact h0
    clear hA1
    have hrg : r ≠ g := by
      intro e
      subst e
      exact (own_type hown1 r rfl).2.ne (show 5 ≠ 159 by decide) hblk1.ofType
    have hgr : g ≠ r := Ne.symm hrg
    have ho2 : OnlyT 0 [159] w1 (w1.setCell ⟨g, 0, none⟩ (.slice (some ⟨r, 0, none⟩) (bs.length + 1) c1)) := OnlyT.set_ hblk1 (Nat.zero_le _) _ (by simp)
    have hblk2 := hblk1.set_ 0 (.slice (some ⟨r, 0, none⟩) (bs.length + 1) c1)
    have hown2 := own_only hown1 ho2 (by decide)
    have ho12 : OnlyO B g w (w1.setCell ⟨g, 0, none⟩ (.slice (some ⟨r, 0, none⟩) (bs.length + 1) c1)) := (OnlyO.of_only ho1).trans (OnlyO.set_g _ _)
    clear hown1 hblk1 ho1 ho2 hd0 hd1 he0 he1 hc0 hc1 hf0 hf1
    generalize w1.setCell ⟨g, 0, none⟩ (.slice (some ⟨r, 0, none⟩) (bs.length + 1) c1) = w2 at *
    have hc0 := hblk2.cell 0
    have hc1 := hblk2.cell 1
    simp only [List.set_cons_zero, List.getElem?_cons_zero, List.getElem?_cons_succ] at hc0 hc1
    have hf0 := hblk2.frozen 0
    have hf1 := hblk2.frozen 1
    have hbn : bvs bs ++ [Value.int .u8 0] = bvs (bs ++ [0]) := by simp [bvs]
    have hbl : bs.length + 1 = (bs ++ [0]).length := by simp
    have hx : (bs ++ [0])[n / 8]? = some (0 : UInt8) := by rw [List.getElem?_append_right (by have := HLEN.out; have := H8.out; omega)]; have : n / 8 - bs.length = 0 := by { have := HLEN.out; have := H8.out; omega }; rw [this]; rfl
    have hcr : w2.cell? ⟨r, n / 8, none⟩ = some (.int .u8 0) := by
      have := hown2.cellAt (n / 8) (by have := HLEN.out; have := H8.out; omega)
      rw [this, hbn]
      unfold bvs
      rw [List.getElem?_map, hx]
      rfl
    have hfr := hown2.frozenAt (n / 8)
    have hq0 : (0 : Int) ≤ (n : Int) / 8 := by omega
    have hq1 : (n : Int) / 8 < ((bs.length + 1 : Nat) : Int) := by have := HLEN.out; have := H8.out; omega
    have HX := Lib.hid hx
    have HBLK2 := Lib.hid hblk2
    have HOWN2 := Lib.hid hown2
    have HBL := Lib.hid hbl
    have HBN := Lib.hid hbn
    have HO12 := Lib.hid ho12
    clear hx hblk2 hown2 hbl hbn ho12
    go_region
    go_wp2
    go_end0
    have hE := layO_end (b := b) (bs' := bs ++ [0]) (by rw [← HBL.out]; exact HBLK2.out) (Nat.le_trans hBg HO12.out.size) (by rw [← HBL.out, ← HBN.out]; exact HOWN2.out) HN.out HP.out (by rw [if_pos (by rw [← HN.out]; exact H8.out)]) HX.out
    rw [show (((0 : UInt8).toNat : Nat) : Int) = 0 from rfl] at hE
    exact ⟨rfl, hE.1, HO12.out.trans hE.2⟩
  · obtain ⟨A, c, rfl, hnc, _, hA⟩ := own_form hown
    obtain ⟨r, rfl, hBr, hr⟩ : ∃ r, A = some ⟨r, 0, none⟩ ∧ B ≤ r ∧ r < w.heap.size := by
      rcases hA with h0 | h0
      · omega
      · exact h0
    clear hA
    have hc0 := hblk.cell 0
    have hc1 := hblk.cell 1
    simp only [List.getElem?_cons_zero, List.getElem?_cons_succ] at hc0 hc1
    have hf0 := hblk.frozen 0
    have hf1 := hblk.frozen 1
    obtain ⟨x, hx⟩ : ∃ x : UInt8, bs[n / 8]? = some x := ⟨bs[n / 8]'(by omega), by simp⟩
    have hcr : w.cell? ⟨r, n / 8, none⟩ = some (.int .u8 x.toNat) := by
      have := hown.cellAt (n / 8) (by omega)
      rw [this]
      simp [bvs, hx]
    have hfr := hown.frozenAt (n / 8)
    have hrg : r ≠ g := by
      intro e
      subst e
      exact (own_type hown r rfl).2.ne (show 5 ≠ 159 by decide) hblk.ofType
    have hgr : g ≠ r := Ne.symm hrg
    have hn8 : ((n : Int) % 8 == 0) = false := by rw [beq_eq_false_iff_ne]; omega
    have hq0 : (0 : Int) ≤ (n : Int) / 8 := by omega
    have hq1 : (n : Int) / 8 < (bs.length : Int) := by omega
    have HX := Lib.hid hx
    have HLEN := Lib.hid hlen
    have HBLK := Lib.hid hblk
    have HOWN := Lib.hid hown
    have H8 := Lib.hid h8
    clear hx hlen hblk hown h8
    go_enter Tryz.func203, Tryz.ntmps203
    go_wp2
    go_region
    go_wp2
    go_end0
    have hE := layO_end (b := b) HBLK.out hBg HOWN.out HN.out HP.out (by rw [if_neg (by rw [← HN.out]; exact H8.out)]) HX.out
    exact ⟨rfl, hE.1, hE.2⟩


/-- What holds at the head of a round of Put. -/
def PutRelO (w : World) (B g : Nat) (l : List Bool) (V n : Nat) (i : Value) (wr : World) : Prop :=
  ∃ k : Nat, k ≤ n ∧ i = .int .i64 k ∧ WrO wr B g (l ++ bitsOf V k) ∧ OnlyO B g w wr

set_option maxHeartbeats 1000000 in
set_option maxRecDepth 100000 in
theorem oPut_any (g B : Nat) (l : List Bool) (V n : Nat) (w : World) (h : WrO w B g l) (hl : l.length < 900000000) (hV : V < 18446744073709551616) (hn : n ≤ 64) :
    Calls Tryz.prog 162 #[.pointer (some ⟨g, 0, none⟩), .int .u64 V, .int .i64 n] w fun e w' => e = .returned (.int .i64 0) ∧ WrO w' B g (l ++ bitsOf V n) ∧ OnlyO B g w w' := by
  have H := Lib.hid h
  clear h
  have hni : (n : Int) ≤ 64 := by omega
  have hn0 : ¬ (n : Int) < 0 := by omega
  have hn1 : ¬ (64 : Int) < n := by omega
  go_enter Tryz.func162, Tryz.ntmps162
  go_wp2
  go_loopw [17] (PutRelO w B g l V n) (fun i _ => n - (intOf i).toNat)
  case atStart => exact ⟨0, Nat.zero_le _, rfl, by rw [show bitsOf V 0 = [] from rfl, List.append_nil]; exact H.out, OnlyO.refl _ _ _⟩
  case round =>
    obtain ⟨k, hk, rfl, hat, ho⟩ := hrel
    have HAT := Lib.hid hat
    have HO := Lib.hid ho
    clear hat ho
    by_cases hlt : k < n
    · have hba := bit_arg V k hV
      have HBA := Lib.hid hba
      have hll : (l ++ bitsOf V k).length < 1000000000 := by rw [List.length_append, bitsOf_length]; omega
      have HLL := Lib.hid hll
      clear hba hll hV
      go_wp2_with (go_at_call 203; go_must (rw [HBA.out]; refine (layO_any g B _ (V.testBit k) _ HAT.out HLL.out).mono ?_; rintro e w1 ⟨rfl, hat1, ho1⟩; rw [List.append_assoc, ← bitsOf_succ] at hat1; have HAT1 := Lib.hid hat1; have HO1 := Lib.hid (HO.out.trans ho1); clear hat1 ho1))
      go_roundw
      case rel => exact ⟨k + 1, by omega, by go_num, HAT1.out, HO1.out⟩
      case measure => simp [intOf]; omega
    · obtain rfl : k = n := by omega
      go_wp2
      go_ret
      exact ⟨rfl, HAT.out, HO.out⟩


/-- What holds at the head of a round of Ones. -/
def OnesRelO (w : World) (B g : Nat) (l : List Bool) (n : Nat) (i : Value) (wr : World) : Prop :=
  ∃ k : Nat, k ≤ n ∧ i = .int .i64 k ∧ WrO wr B g (l ++ List.replicate k true) ∧ OnlyO B g w wr

set_option maxHeartbeats 1000000 in
set_option maxRecDepth 100000 in
theorem oOnes_any (g B : Nat) (l : List Bool) (n m : Nat) (w : World) (h : WrO w B g l) (hl : l.length < 900000000) (hn : n ≤ m) (hm : m ≤ 256) :
    Calls Tryz.prog 289 #[.pointer (some ⟨g, 0, none⟩), .int .i64 n, .int .i64 m] w fun e w' => e = .returned (.int .i64 0) ∧ WrO w' B g (l ++ onesOf n m) ∧ OnlyO B g w w' := by
  have H := Lib.hid h
  clear h
  have hni : (n : Int) ≤ (m : Int) := by omega
  have hmi : (m : Int) ≤ 256 := by omega
  have hn0 : ¬ (n : Int) < 0 := by omega
  have hn1 : ¬ (m : Int) < n := by omega
  have hn2 : ¬ (256 : Int) < m := by omega
  go_enter Tryz.func289, Tryz.ntmps289
  go_wp2
  go_loopw [21] (OnesRelO w B g l n) (fun i _ => n - (intOf i).toNat)
  case atStart => exact ⟨0, Nat.zero_le _, rfl, by rw [List.replicate_zero, List.append_nil]; exact H.out, OnlyO.refl _ _ _⟩
  case round =>
    obtain ⟨k, hk, rfl, hat, ho⟩ := hrel
    have HAT := Lib.hid hat
    have HO := Lib.hid ho
    clear hat ho
    have hll : (l ++ List.replicate k true).length < 1000000000 := by rw [List.length_append, List.length_replicate]; omega
    have HLL := Lib.hid hll
    clear hll
    by_cases hlt : k < n
    · go_wp2_with (go_at_call 203; go_must (refine (layO_any g B _ true _ HAT.out HLL.out).mono ?_; rintro e w1 ⟨rfl, hat1, ho1⟩; rw [List.append_assoc, ← List.replicate_succ'] at hat1; have HAT1 := Lib.hid hat1; have HO1 := Lib.hid (HO.out.trans ho1); clear hat1 ho1))
      go_roundw
      case rel => exact ⟨k + 1, by omega, by go_num, HAT1.out, HO1.out⟩
      case measure => simp [intOf]; omega
    · obtain rfl : k = n := by omega
      by_cases hlm : k < m
      · go_wp2_with (go_at_call 203; go_must (refine (layO_any g B _ false _ HAT.out HLL.out).mono ?_; rintro e w1 ⟨rfl, hat1, ho1⟩; have HAT1 := Lib.hid hat1; have HO1 := Lib.hid (HO.out.trans ho1); clear hat1 ho1))
        go_ret
        exact ⟨rfl, by have := HAT1.out; rw [List.append_assoc] at this; unfold onesOf; rw [if_pos hlm]; exact this, HO1.out⟩
      · have hlm' : ¬ (k : Int) < m := by omega
        go_wp2
        go_ret
        exact ⟨rfl, by unfold onesOf; rw [if_neg hlm, List.append_nil]; exact HAT.out, HO.out⟩

set_option maxHeartbeats 1000000 in
theorem oBytes_any (g B : Nat) (l : List Bool) (w : World) (h : WrO w B g l) (hl : l.length < 1000000000) :
    Calls Tryz.prog 101 #[.pointer (some ⟨g, 0, none⟩)] w fun e w' => ∃ bs, Packs bs l ∧ NewBy w bs e w' := by
  obtain ⟨v, bs, hblk, hBg, hown, hp⟩ := h
  obtain ⟨A, c, rfl, hnc, _, hA⟩ := own_form hown
  have hc0 := hblk.cell 0
  simp only [List.getElem?_cons_zero] at hc0
  have hr := Rd.of_own hown
  have hlen := hp.1
  have hcA : A = none → c = 0 := by
    rintro rfl
    rcases hown.2 with ⟨h0, _⟩ | ⟨_, _, _, h0, _⟩
    · injection h0
    · cases h0
  have hc := clone_any A bs.length c bs w hr rfl (by omega) hcA
  have HC := Lib.hid hc
  have HP := Lib.hid hp
  clear hblk hown hp hA hcA hc hr hlen hnc
  go_enter Tryz.func101, Tryz.ntmps101
  go_wp2_with (go_at_call 164; go_must (refine HC.out.mono ?_; rintro e w1 ⟨v1, rfl, hown1, hb1⟩))
  go_ret
  exact ⟨bs, HP.out, _, rfl, hown1, hb1⟩

end Go.Proofs.YtflcmmeoppdhdaaGreat
