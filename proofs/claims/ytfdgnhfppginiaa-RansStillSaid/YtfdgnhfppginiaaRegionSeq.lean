/- A region that draws its order, in which some operations, in a row of their own ('calls'), turn the world one behind the other, and all others only read or make memory: G c is what holds once c of them are done. General: no code of the project. -/
import Derived.Test.YtfdgnhfppginiaaBase
namespace Go.Proofs.Ytfdgnhfppginiaa
open Go.RowKit

/-- An operation as the prover sees it: its temporary, the operations that it leans on, its value, between how many calls it may stand; 'call': it is that call. -/
structure RowS where
  dst : Nat
  need : List Nat
  val : Value
  lo : Nat
  hi : Nat
  call : Option Nat
def rowS : List RowS → Nat → RowS
  | [], _ => ⟨0, [], undef, 0, 0, none⟩
  | r :: _, 0 => r
  | _ :: l, k + 1 => rowS l k
theorem rowS_get : ∀ (rows : List RowS) (k : Nat) (r : RowS), rows[k]? = some r → rowS rows k = r
  | [], _, _, h => by simp at h
  | _ :: _, 0, _, h => by simpa [rowS] using h
  | _ :: l, k + 1, r, h => rowS_get l k r (by simpa using h)
/-- How many calls are done at least, once it is done. -/
def RowS.lo2 (r : RowS) : Nat := match r.call with | some i => i + 1 | none => r.lo
def RowS.hi2 (r : RowS) : Nat := match r.call with | some i => i | none => r.hi
def NeedV (rows : List RowS) (ev : Operand → Value) (yi : Nat → Option Bool) : List Nat → Prop
  | [] => True
  | j :: l => ev (.tmp (rowS rows j).dst) = (rowS rows j).val ∧ yi j = boolOf (rowS rows j).val ∧ NeedV rows ev yi l
/-- Do the rows speak of these operations, and of r calls in order? -/
def rowsSOk (ops : Array Oper) (rows : List RowS) (r : Nat) : Bool :=
  rows.length == ops.size && (List.range ops.size).all fun k =>
    (rowS rows k).dst == dstOf ops k && ((rowS rows k).need.all fun j => ((ops[k]?).map fun o => (predsOf o).contains j).getD false) &&
    (match (rowS rows k).call with
      | some i => decide (i < r) && (decide (i = 0) || (((ops[k]?).map fun o => (predsOf o).any fun j => decide (i ≤ (rowS rows j).lo2)).getD false)) && ((List.range ops.size).all fun j => j == k || (rowS rows j).call != some i)
      | none => (decide ((rowS rows k).lo = 0) || (((ops[k]?).map fun o => (predsOf o).any fun j => decide ((rowS rows k).lo ≤ (rowS rows j).lo2)).getD false)) &&
          (decide ((rowS rows k).hi = r) || (List.range ops.size).any fun m => decide ((rowS rows m).hi2 ≤ (rowS rows k).hi) && (((ops[m]?).map fun o => (predsOf o).contains k).getD false)))
def lastCall (rows : List RowS) (r : Nat) : Bool := r == 0 || rows.any fun x => x.call == some (r - 1)

section
variable {P : Program} {ops : Array Oper} {a0 : Act} {rows : List RowS} {r : Nat} {G : Nat → World → Prop} {Q : Exit → Act → World → Prop}
def OblS (P : Program) (G : Nat → World → Prop) (rows : List RowS) (outs : List (Nat × Value)) (x : RowS) (o : Oper) : Prop :=
  ∀ (ev : Operand → Value) (yi : Nat → Option Bool) (w : World) (c : Nat), G c w → (match x.call with | some i => c = i | none => x.lo ≤ c ∧ c ≤ x.hi) → (∀ c, ev (.const c) = c) → (∀ f, ev (.func f) = .func (.func f) #[] #[]) → OutsSay ev outs → NeedV rows ev yi x.need →
    if Region.wanted o yi = true then OpSays P o ev w (fun v w' => v = x.val ∧ G (match x.call with | some i => i + 1 | none => c) w') else x.val = undef ∧ G (match x.call with | some i => i + 1 | none => c) w
def OblSAll (P : Program) (G : Nat → World → Prop) (rows : List RowS) (outs : List (Nat × Value)) : List RowS → List Oper → Prop
  | x :: rs, o :: os => OblS P G rows outs x o ∧ OblSAll P G rows outs rs os
  | _, _ => True
theorem OblSAll.cons {P : Program} {G : Nat → World → Prop} {rows : List RowS} {outs : List (Nat × Value)} {x : RowS} {rs : List RowS} {o : Oper} {os : List Oper} (h : OblS P G rows outs x o) (hs : OblSAll P G rows outs rs os) : OblSAll P G rows outs (x :: rs) (o :: os) := ⟨h, hs⟩
theorem OblSAll.nil {P : Program} {G : Nat → World → Prop} {rows : List RowS} {outs : List (Nat × Value)} : OblSAll P G rows outs [] [] := trivial
theorem OblSAll.at_ {rows : List RowS} {outs : List (Nat × Value)} : ∀ (rs : List RowS) (l : List Oper), OblSAll P G rows outs rs l → ∀ (k : Nat) (x : RowS) (o : Oper), rs[k]? = some x → l[k]? = some o → OblS P G rows outs x o
  | [], _, _, _, _, _, h, _ => by simp at h
  | _ :: _, [], _, _, _, _, _, h => by simp at h
  | x :: rs, o :: l, h, 0, _, _, hx, ho => by simp at hx ho; subst hx ho; exact h.1
  | x :: rs, o :: l, h, k + 1, _, _, hx, ho => OblSAll.at_ rs l h.2 k _ _ (by simpa using hx) (by simpa using ho)

/-- What holds between two operations. -/
structure MidS (ops : Array Oper) (a0 : Act) (rows : List RowS) (r : Nat) (G : Nat → World → Prop) (listed : Array Bool) (a : Act) (w : World) (c : Nat) : Prop where
  size : listed.size = ops.size
  defers : a.defers = a0.defers
  tmps : a.tmps.size = a0.tmps.size
  out : ∀ t, (List.range ops.size).all (fun k => dstOf ops k != t) = true → a.tmps[t]? = a0.tmps[t]?
  closed : ∀ k o, ops[k]? = some o → listed.getD k false = true → ∀ j ∈ predsOf o, listed.getD j false = true
  done : ∀ k, listed.getD k false = true → a.eval (.tmp (dstOf ops k)) = (rowS rows k).val
  lows : ∀ k, listed.getD k false = true → (rowS rows k).lo2 ≤ c
  highs : ∀ k, k < ops.size → listed.getD k false = false → c ≤ (rowS rows k).hi2
  most : c ≤ r
  glob : G c w

theorem rowS_ok (hrows : rowsSOk ops rows r = true) {k : Nat} {o : Oper} (ho : ops[k]? = some o) :
    (rowS rows k).dst = dstOf ops k ∧ (∀ j ∈ (rowS rows k).need, j ∈ predsOf o) ∧
    (∀ i, (rowS rows k).call = some i → i < r ∧ (i = 0 ∨ ∃ j ∈ predsOf o, i ≤ (rowS rows j).lo2) ∧ ∀ j, j < ops.size → j ≠ k → (rowS rows j).call ≠ some i) ∧
    ((rowS rows k).call = none → ((rowS rows k).lo = 0 ∨ ∃ j ∈ predsOf o, (rowS rows k).lo ≤ (rowS rows j).lo2) ∧ ((rowS rows k).hi = r ∨ ∃ m o', ops[m]? = some o' ∧ (rowS rows m).hi2 ≤ (rowS rows k).hi ∧ k ∈ predsOf o')) := by
  have hk : k < ops.size := (Array.getElem?_eq_some_iff.1 ho).1
  simp only [rowsSOk, Bool.and_eq_true] at hrows
  have h := List.all_eq_true.1 hrows.2 k (List.mem_range.2 hk)
  simp only [Bool.and_eq_true, beq_iff_eq, ho, Option.map_some, Option.getD_some] at h
  obtain ⟨⟨h1, h2⟩, h3⟩ := h
  refine ⟨h1, fun j hj => by simpa using List.all_eq_true.1 h2 j hj, fun i hi => ?_, fun hn => ?_⟩
  · rw [hi] at h3
    simp only [Bool.and_eq_true, decide_eq_true_eq, Bool.or_eq_true, List.any_eq_true] at h3
    obtain ⟨⟨h4, h5⟩, h6⟩ := h3
    refine ⟨h4, h5, fun j hj hne => ?_⟩
    have := List.all_eq_true.1 h6 j (List.mem_range.2 hj)
    simp only [Bool.or_eq_true, beq_iff_eq, bne_iff_ne] at this
    rcases this with h | h
    · exact absurd h hne
    · exact h
  · rw [hn] at h3
    simp only [Bool.and_eq_true, decide_eq_true_eq, Bool.or_eq_true, List.any_eq_true] at h3
    refine ⟨h3.1, h3.2.imp id ?_⟩
    rintro ⟨m, hm, h7, h8⟩
    have hm' := List.mem_range.1 hm
    have e : ops[m]? = some ops[m] := by simp [hm']
    refine ⟨m, ops[m], e, h7, ?_⟩
    rw [e] at h8
    simpa using h8

/-- One operation more. -/
theorem MidS.step (hok : dstsOk ops a0.tmps.size = true) (hac : acyc ops = true) (hrows : rowsSOk ops rows r = true)
    {listed : Array Bool} {a : Act} {w w' : World} {c : Nat} (hM : MidS ops a0 rows r G listed a w c) {i : Nat} {o : Oper} (ho : ops[i]? = some o) (hun : listed.getD i true = false) (hp : ∀ j ∈ predsOf o, listed.getD j false = true)
    {v : Value} (hv : v = (rowS rows i).val) {c' : Nat} (hc' : c' = match (rowS rows i).call with | some _ => c + 1 | none => c) (hci : ∀ q, (rowS rows i).call = some q → c = q) (hG : G c' w') :
    MidS ops a0 rows r G (listed.setIfInBounds i true) (a.put o.dst v) w' c' := by
  obtain ⟨hd, hdlt⟩ := dst_of_ok hok ho
  have hi : i < ops.size := (Array.getElem?_eq_some_iff.1 ho).1
  rw [hd]
  have hset : ∀ k, listed.getD k false = true → (listed.setIfInBounds i true).getD k false = true := by
    intro k hk
    by_cases e : k = i
    · subst e; simp [Array.getD_eq_getD_getElem?, hM.size, hi]
    · simpa [Array.getD_eq_getD_getElem?, Array.getElem?_setIfInBounds_ne (Ne.symm e)] using hk
  have hback : ∀ k, k ≠ i → (listed.setIfInBounds i true).getD k false = listed.getD k false := by
    intro k hk
    simp [Array.getD_eq_getD_getElem?, Array.getElem?_setIfInBounds_ne (Ne.symm hk)]
  have hself : (listed.setIfInBounds i true).getD i false = true := by simp [Array.getD_eq_getD_getElem?, hM.size, hi]
  have hmono : c ≤ c' := by
    cases hcl : (rowS rows i).call with
    | none => rw [hcl] at hc'; simp only at hc'; omega
    | some q => rw [hcl] at hc'; simp only at hc'; omega
  obtain ⟨r1, r2, r3, r4⟩ := rowS_ok hrows ho
  refine ⟨by simpa using hM.size, hM.defers, by simpa [Act.put] using hM.tmps, fun t ht => ?_, fun k o' ho' hk j hj => ?_, fun k hk => ?_, fun k hk => ?_, ?_, ?_, hG⟩
  · rw [← hM.out t ht]
    simp [Act.put, Array.getElem?_setIfInBounds_ne (not_dst ht hi)]
  · by_cases hki : k = i
    · subst hki
      rw [ho] at ho'
      injection ho' with ho'
      subst ho'
      exact hset j (hp j hj)
    · exact hset j (hM.closed k o' ho' (by rw [← hback k hki]; exact hk) j hj)
  · by_cases hki : k = i
    · subst hki
      rw [eval_put_same (by rw [hM.tmps]; exact hdlt)]
      exact hv
    · have hk' : listed.getD k false = true := by rw [← hback k hki]; exact hk
      have hklt : k < ops.size := by
        rcases Nat.lt_or_ge k ops.size with g | g
        · exact g
        · rw [← hM.size] at g; simp [Array.getD_eq_getD_getElem?, Array.getElem?_eq_none g] at hk'
      rw [eval_put_ne (dst_ne hok hi hklt (Ne.symm hki))]
      exact hM.done k hk'
  · by_cases hki : k = i
    · subst hki
      cases hcl : (rowS rows k).call with
      | some q =>
        have := hci q hcl
        rw [hcl] at hc'
        simp only at hc'
        simp only [RowS.lo2, hcl]
        omega
      | none =>
        simp only [RowS.lo2, hcl]
        rcases (r4 hcl).1 with h | ⟨j, hj, h⟩
        · omega
        · have := hM.lows j (hp j hj); omega
    · have := hM.lows k (by rw [← hback k hki]; exact hk); omega
  · cases hcl : (rowS rows i).call with
    | none =>
      rw [hcl] at hc'
      simp only at hc'
      subst hc'
      intro k hk hkf
      have hki : k ≠ i := by rintro rfl; rw [hself] at hkf; cases hkf
      exact hM.highs k hk (by rw [← hback k hki]; exact hkf)
    | some q =>
      rw [hcl] at hc'
      simp only at hc'
      have hcq := hci q hcl
      obtain ⟨hqr, -, huniq⟩ := r3 q hcl
      have key : ∀ d k, ops.size - k ≤ d → k < ops.size → (listed.setIfInBounds i true).getD k false = false → c' ≤ (rowS rows k).hi2 := by
        intro d
        induction d with
        | zero => intro k h1 h2; omega
        | succ d ih =>
          intro k h1 hk hkf
          have hki : k ≠ i := by rintro rfl; rw [hself] at hkf; cases hkf
          have hkf' : listed.getD k false = false := by rw [← hback k hki]; exact hkf
          have hhi := hM.highs k hk hkf'
          have hok' : ops[k]? = some ops[k] := by simp [hk]
          obtain ⟨-, -, -, s4⟩ := rowS_ok hrows hok'
          cases hck : (rowS rows k).call with
          | some p =>
            simp only [RowS.hi2, hck] at hhi ⊢
            have : p ≠ q := fun e => huniq k hk hki (by rw [hck, e])
            omega
          | none =>
            simp only [RowS.hi2, hck]
            rcases (s4 hck).2 with h | ⟨m, o', hm, h5, h6⟩
            · omega
            · have hml : m < ops.size := (Array.getElem?_eq_some_iff.1 hm).1
              have hkm : k < m := by
                obtain ⟨e, he, hek⟩ := List.mem_map.1 h6
                obtain ⟨he1, he2⟩ := List.mem_filter.1 he
                have h := List.all_eq_true.1 hac m (List.mem_range.2 hml)
                have h3 := List.all_eq_true.1 h e (by simpa [hm] using he1)
                simp only [he2, Bool.not_true, Bool.false_or, decide_eq_true_eq] at h3
                omega
              have hmf : (listed.setIfInBounds i true).getD m false = false := by
                cases hl : (listed.setIfInBounds i true).getD m false with
                | false => rfl
                | true =>
                  exfalso
                  by_cases hmi : m = i
                  · subst hmi
                    rw [ho] at hm
                    injection hm with hm
                    subst hm
                    have := hp k h6
                    rw [hkf'] at this; cases this
                  · have := hM.closed m o' hm (by rw [← hback m hmi]; exact hl) k h6
                    rw [hkf'] at this; cases this
              have := ih m (by omega) hml hmf
              omega
      exact fun k hk hkf => key (ops.size - k) k (Nat.le_refl _) hk hkf
  · cases hcl : (rowS rows i).call with
    | none => rw [hcl] at hc'; simp only at hc'; rw [hc']; exact hM.most
    | some q => rw [hcl] at hc'; simp only at hc'; have := hci q hcl; have := (r3 q hcl).1; omega
theorem needV_say {listed : Array Bool} {a : Act} {w : World} {c : Nat} (hM : MidS ops a0 rows r G listed a w c) (hok : dstsOk ops a0.tmps.size = true) (hrows : rowsSOk ops rows r = true) :
    ∀ l : List Nat, (∀ j ∈ l, listed.getD j false = true) → NeedV rows a.eval (yielded ops a.tmps) l
  | [], _ => trivial
  | j :: l, h => by
    have hj := h j (by simp)
    have hjl : j < ops.size := by
      rcases Nat.lt_or_ge j ops.size with g | g
      · exact g
      · rw [← hM.size] at g; simp [Array.getD_eq_getD_getElem?, Array.getElem?_eq_none g] at hj
    have hoj : ops[j]? = some ops[j] := by simp [hjl]
    obtain ⟨h1, h2⟩ := dst_of_ok hok hoj
    have hdn := hM.done j hj
    have hsz : dstOf ops j < a.tmps.size := by rw [hM.tmps]; exact h2
    refine ⟨by rw [(rowS_ok hrows hoj).1]; exact hdn, ?_, needV_say hM hok hrows l fun i hi => h i (by simp [hi])⟩
    rw [← hdn]
    simp only [yielded, hoj, Option.bind_some, h1, Act.eval]
    simp only [Array.getD_eq_getD_getElem?, Array.getElem?_eq_getElem hsz, Option.getD_some]
    generalize a.tmps[dstOf ops j] = u
    cases u <;> rfl
theorem outsS_say {listed : Array Bool} {a : Act} {w : World} {c : Nat} (hM : MidS ops a0 rows r G listed a w c) : ∀ outs : List (Nat × Value), outsOk ops outs = true → OutsSay a0.eval outs → OutsSay a.eval outs
  | [], _, _ => trivial
  | p :: l, hok, h => by
    simp only [outsOk, List.all_cons, Bool.and_eq_true] at hok
    refine ⟨?_, outsS_say hM l hok.2 h.2⟩
    have := hM.out p.1 hok.1
    rw [← h.1]
    simp [Act.eval, Array.getD_eq_getD_getElem?, this]
theorem wpAny_seq {outs : List (Nat × Value)} (hok : dstsOk ops a0.tmps.size = true) (hac : acyc ops = true) (hrows : rowsSOk ops rows r = true) (hlast : lastCall rows r = true) (hout : outsOk ops outs = true) (houts : OutsSay a0.eval outs) (hobl : OblSAll P G rows outs rows ops.toList)
    (hend : ∀ w : World, G r w → Q .normal ⟨layAll ops (fun k => (rowS rows k).val) 0 ops.toList a0.tmps, a0.defers⟩ w) :
    ∀ (fuel : Nat) (listed : Array Bool) (a : Act) (w : World) (c : Nat), unlisted listed ≤ fuel → MidS ops a0 rows r G listed a w c → wpAny P .any ops Q fuel listed a w := by
  have hlen : rows.length = ops.size := by
    simp only [rowsSOk, Bool.and_eq_true, beq_iff_eq] at hrows
    exact hrows.1
  have last : ∀ (listed : Array Bool) (a : Act) (w : World) (c : Nat), MidS ops a0 rows r G listed a w c → Region.ready .any ops listed = [] → Q .normal a w := by
    intro listed a w c hM hr
    have hall := all_listed hac hM.size hr
    have hc : c = r := by
      refine Nat.le_antisymm hM.most ?_
      simp only [lastCall, Bool.or_eq_true, beq_iff_eq, List.any_eq_true] at hlast
      rcases hlast with h | ⟨x, hx, hxc⟩
      · omega
      · obtain ⟨k, hk, hkx⟩ := List.mem_iff_getElem.1 hx
        have hrk : rowS rows k = x := rowS_get rows k x (by rw [List.getElem?_eq_getElem hk, hkx])
        have := hM.lows k (hall k (by omega))
        rw [hrk] at this
        simp only [RowS.lo2, hxc] at this
        omega
    subst hc
    have h := hend w hM.glob
    have e : a = ⟨layAll ops (fun k => (rowS rows k).val) 0 ops.toList a0.tmps, a0.defers⟩ := by
      obtain ⟨t, ds⟩ := a
      have hd : ds = a0.defers := hM.defers
      subst hd
      congr 1
      apply Array.ext_getElem?
      intro d
      by_cases hin : (List.range ops.size).all (fun k => dstOf ops k != d) = true
      · rw [layAll_get _ _ d _ 0 _ (fun k o ho => by
          have ho' : ops[k]? = some o := by simpa using ho
          rw [(dst_of_ok hok ho').1]
          intro e'
          injection e' with e'
          exact not_dst hin (Array.getElem?_eq_some_iff.1 ho').1 e')]
        exact hM.out d hin
      · obtain ⟨k, hk, hkd⟩ : ∃ k, k < ops.size ∧ dstOf ops k = d := by
          apply Classical.byContradiction
          intro hno
          refine hin (List.all_eq_true.2 fun k hk => ?_)
          rw [bne_iff_ne]
          exact fun e' => hno ⟨k, List.mem_range.1 hk, e'⟩
        have ho : ops[k]? = some ops[k] := by simp [hk]
        have hdk := dst_of_ok hok ho
        rw [hkd] at hdk
        rw [layAll_here _ _ d _ 0 _ k ops[k] (by simp [hk]) hdk.1 hdk.2 (fun j o' ho' hj => by
          have ho2 : ops[j]? = some o' := by simpa using ho'
          rw [(dst_of_ok hok ho2).1]
          intro e'
          injection e' with e'
          exact dst_ne hok (Array.getElem?_eq_some_iff.1 ho2).1 hk hj (e'.trans hkd.symm))]
        have hsz : d < t.size := by have := hM.tmps; simp only at this; rw [this]; exact hdk.2
        have hdn := hM.done k (hall k hk)
        rw [hkd] at hdn
        simp only [Act.eval, Array.getD_eq_getD_getElem?, Array.getElem?_eq_getElem hsz, Option.getD_some] at hdn
        rw [Array.getElem?_eq_getElem hsz, hdn, Nat.zero_add]
    rw [← e] at h
    exact h
  intro fuel
  induction fuel with
  | zero =>
    intro listed a w c hc hM
    have hr : Region.ready .any ops listed = [] := by
      apply List.eq_nil_iff_forall_not_mem.2
      intro i hi
      obtain ⟨hun, o, ho, _⟩ := mem_ready.1 hi
      have hi' : i < ops.size := (Array.getElem?_eq_some_iff.1 ho).1
      have : false ∈ (listed.toList.filter fun b => !b) := by
        rw [List.mem_filter]
        refine ⟨?_, rfl⟩
        have h2 : listed[i]? = some false := by
          simp [Array.getD_eq_getD_getElem?, hM.size, hi'] at hun
          simp [hM.size, hi', hun]
        exact Array.mem_toList_iff.2 (Array.mem_of_getElem? h2)
      have h3 : (listed.toList.filter fun b => !b) = [] := List.eq_nil_of_length_eq_zero (Nat.le_zero.1 hc)
      rw [h3] at this
      cases this
    exact ⟨hr, last listed a w c hM hr⟩
  | succ fuel ih =>
    intro listed a w c hc hM
    refine ⟨last listed a w c hM, fun i hi => ?_⟩
    obtain ⟨hun, o, ho, hall⟩ := mem_ready.1 hi
    have hi' : i < ops.size := (Array.getElem?_eq_some_iff.1 ho).1
    have hfalse : listed[i]? = some false := by
      simp [Array.getD_eq_getD_getElem?, hM.size, hi'] at hun
      simp [hM.size, hi', hun]
    have hf0 : listed.getD i false = false := by simp [Array.getD_eq_getD_getElem?, hfalse]
    have hc' : unlisted (listed.setIfInBounds i true) ≤ fuel := by
      have := unlisted_set listed.toList i (by simpa using hfalse)
      unfold unlisted at hc ⊢
      rw [Array.toList_setIfInBounds]
      omega
    have hri : rows[i]? = some (rowS rows i) := by
      have : rows[i]? = some rows[i] := List.getElem?_eq_getElem (by omega)
      rw [this, rowS_get rows i _ this]
    have hpr : ∀ j ∈ predsOf o, listed.getD j false = true := by
      intro j hj
      obtain ⟨e, he, rfl⟩ := List.mem_map.1 hj
      obtain ⟨he1, he2⟩ := List.mem_filter.1 he
      exact hall e (Array.mem_toList_iff.1 he1) he2
    obtain ⟨s1, s2, s3, s4⟩ := rowS_ok hrows ho
    have hhi := hM.highs i hi' hf0
    have hcall : ∀ q, (rowS rows i).call = some q → c = q := by
      intro q hq
      simp only [RowS.hi2, hq] at hhi
      obtain ⟨-, h5, -⟩ := s3 q hq
      rcases h5 with h5 | ⟨j, hj, h5⟩
      · omega
      · have := hM.lows j (hpr j hj); omega
    have hrange : match (rowS rows i).call with | some q => c = q | none => (rowS rows i).lo ≤ c ∧ c ≤ (rowS rows i).hi := by
      cases hcl : (rowS rows i).call with
      | some q => exact hcall q hcl
      | none =>
        simp only [RowS.hi2, hcl] at hhi
        refine ⟨?_, hhi⟩
        rcases (s4 hcl).1 with h5 | ⟨j, hj, h5⟩
        · omega
        · have := hM.lows j (hpr j hj); omega
    have hob := hobl.at_ rows ops.toList i _ o hri (by simpa using ho) a.eval (yielded ops a.tmps) w c hM.glob hrange (fun _ => rfl) (fun _ => rfl) (outsS_say hM outs hout houts) (needV_say hM hok hrows _ fun j hj => hpr j (s2 j hj))
    have hnext : (match (rowS rows i).call with | some q => q + 1 | none => c) = (match (rowS rows i).call with | some _ => c + 1 | none => c) := by
      cases hcl : (rowS rows i).call with
      | some q => have := hcall q hcl; simp only; omega
      | none => rfl
    rw [hnext] at hob
    unfold wpOp
    simp only [ho]
    by_cases hw : Region.wanted o (yielded ops a.tmps) = true
    · rw [if_pos hw] at hob ⊢
      exact .inl (hob.wp fun v w' hp => ih _ _ _ _ hc' (hM.step hok hac hrows ho hun hpr hp.1 rfl hcall hp.2))
    · rw [if_neg hw] at hob ⊢
      exact ih _ _ _ _ hc' (hM.step hok hac hrows ho hun hpr hob.1.symm rfl hcall hob.2)
/-- THE RULE. -/
theorem wp_region_seq {id : Nat} {w0 : World} (rows : List RowS) (r : Nat) (G : Nat → World → Prop) (outs : List (Nat × Value)) (h0 : G 0 w0.drew) (hm : P.follows .mixedOrders = true) (hok : dstsOk ops a0.tmps.size = true) (hac : acyc ops = true) (hrows : rowsSOk ops rows r = true) (hlast : lastCall rows r = true) (hout : outsOk ops outs = true) (houts : OutsSay a0.eval outs)
    (hobl : OblSAll P G rows outs rows ops.toList)
    (hend : ∀ w : World, G r w → Q .normal ⟨layAll ops (fun k => (rowS rows k).val) 0 ops.toList a0.tmps, a0.defers⟩ w) :
    (Code.region id ops true).wp P Q a0 w0 := by
  refine wp_region_any hm (wpAny_seq hok hac hrows hlast hout houts hobl hend ops.size _ a0 _ 0 ?_ ?_)
  · simp [unlisted]
  · refine ⟨by simp, rfl, rfl, fun _ _ => rfl, fun k o ho hk => ?_, fun k hk => ?_, fun k hk => ?_, fun k hk hkf => Nat.zero_le _, Nat.zero_le _, h0⟩
    · have g : k < ops.size := (Array.getElem?_eq_some_iff.1 ho).1
      simp [Array.getD_eq_getD_getElem?, g] at hk
    all_goals
      exfalso
      rcases Nat.lt_or_ge k ops.size with g | g
      · simp [Array.getD_eq_getD_getElem?, g] at hk
      · simp [Array.getD_eq_getD_getElem?, Nat.not_lt.2 g] at hk
end
section
variable {P : Program} {o : Oper} {ev : Operand → Value} {w : World} {post : Value → World → Prop}
/-- A load of a whole struct. -/
theorem says_load_struct {ty : TypeId} {x : Operand} {g : Nat} {t : TypeId} {cs : List Value} {fs : _} (hop : o.op = .load ty x) (hx : ev x = .pointer (some ⟨g, 0, none⟩)) (hg : Blk w g t cs)
    (hu : P.underlying ty = some (.struct fs)) (hi : (P.info? ty).map (·.size) = some cs.toArray.size) (hp : post (.agg cs.toArray) w) : OpSays P o ev w post := by
  have e : (execOp ev o).run P w = .ok (.value (.agg cs.toArray)) w := by
    unfold execOp
    simp only [hop, hx, Instr.loadAt, Instr.sureAddr, Sem.run_bind, Sem.run_pure, Result.andThen_ok, run_loadVar_row w g t ty cs.toArray (0, 0) _ hg hu rfl hi]
  unfold OpSays
  rw [e]
  exact hp
end
/-- One call: ahead of it the world is w0. -/
def OneG (w0 : World) (Post : World → Prop) (c : Nat) (w : World) : Prop := if c = 0 then w = w0 else Post w
theorem OneG.zero (w0 : World) (Post : World → Prop) : OneG w0 Post 0 w0 := rfl
end Go.Proofs.Ytfdgnhfppginiaa
