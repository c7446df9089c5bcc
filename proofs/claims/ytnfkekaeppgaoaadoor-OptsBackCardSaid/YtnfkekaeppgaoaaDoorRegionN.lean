/- Regions in which operations without a slot of their own stand (stores, a map's inserts): the rule of Base for any order. By mkn.py out of Base. -/
import Derived.Test.YtnfkekaeppgaoaaDoorBase
namespace Go.Proofs.YtnfkekaeppgaoaaDoor
open Go.RowKit

/-- The slot that operation number k writes; one beyond all, where it writes none. -/
def dstOfN (ops : Array Oper) (k : Nat) : Nat := ((ops[k]?).bind (·.dst)).getD (1000000 + k)
def lateOkN (ops : Array Oper) (i t : Nat) : Bool :=
  (List.range ops.size).all fun k => dstOfN ops k != t || ((ops[k]?).map fun o => (predsOf o).contains i).getD false
/-- What an operation may lean on: the frame's slots that the region does not write, and what those before it have left. -/
structure EnvN (ops : Array Oper) (a0 : Act) (F : Nat → Value → World → Prop) (i : Nat) (o : Oper) (ev : Operand → Value) (yi : Nat → Option Bool) (w : World) : Prop where
  const : ∀ c, ev (.const c) = c
  func : ∀ f, ev (.func f) = .func (.func f) #[] #[]
  glob : ∀ g, ev (.global g) = .pointer (some ⟨g, 0, none⟩)
  out : ∀ t, (List.range ops.size).all (fun k => dstOfN ops k != t) = true → ev (.tmp t) = a0.eval (.tmp t)
  late : ∀ t, lateOkN ops i t = true → ev (.tmp t) = a0.eval (.tmp t)
  fact : ∀ j ∈ predsOf o, F j (ev (.tmp (dstOfN ops j))) w
  yields : ∀ j, j < ops.size → yi j = boolOf (ev (.tmp (dstOfN ops j)))

def OblN (P : Program) (ops : Array Oper) (a0 : Act) (F : Nat → Value → World → Prop) (E : Nat → World → Prop) (R : Nat → World → World → Prop) (G : World → Prop) (k : Nat) (o : Oper) : Prop :=
  ∀ (ev : Operand → Value) (yi : Nat → Option Bool) (w : World), G w → E k w → EnvN ops a0 F k o ev yi w →
    if Region.wanted o yi = true then OpSays P o ev w (fun v w' => F k v w' ∧ R k w w') else F k undef w

def OblAllN (P : Program) (ops : Array Oper) (a0 : Act) (F : Nat → Value → World → Prop) (E : Nat → World → Prop) (R : Nat → World → World → Prop) (G : World → Prop) : Nat → List Oper → Prop
  | _, [] => True
  | k, o :: rest => OblN P ops a0 F E R G k o ∧ OblAllN P ops a0 F E R G (k + 1) rest

theorem OblAllN.at_ {P : Program} {ops : Array Oper} {a0 : Act} {F : Nat → Value → World → Prop} {E : Nat → World → Prop} {R : Nat → World → World → Prop} {G : World → Prop} :
    ∀ (l : List Oper) (n : Nat), OblAllN P ops a0 F E R G n l → ∀ k o, l[k]? = some o → OblN P ops a0 F E R G (n + k) o
  | [], _, _, _, _, h => by simp at h
  | x :: l, n, h, 0, o, ho => by simp at ho; subst ho; exact h.1
  | x :: l, n, h, k + 1, o, ho => by
    have := OblAllN.at_ l (n + 1) h.2 k o (by simpa using ho)
    rwa [show n + 1 + k = n + (k + 1) by omega] at this

theorem oblAllN_nil {P : Program} {ops : Array Oper} {a0 : Act} {F : Nat → Value → World → Prop} {E : Nat → World → Prop} {R : Nat → World → World → Prop} {G : World → Prop} {k : Nat} : OblAllN P ops a0 F E R G k [] := trivial
theorem oblAllN_cons {P : Program} {ops : Array Oper} {a0 : Act} {F : Nat → Value → World → Prop} {E : Nat → World → Prop} {R : Nat → World → World → Prop} {G : World → Prop} {k : Nat} {o : Oper} {l : List Oper} (h : OblN P ops a0 F E R G k o) (hs : OblAllN P ops a0 F E R G (k + 1) l) : OblAllN P ops a0 F E R G k (o :: l) := ⟨h, hs⟩
/-- Is every slot there, and no two the same? -/
def dstsOkN (ops : Array Oper) (n : Nat) : Bool :=
  decide (n ≤ 1000000) && (List.range ops.size).all fun k => (match ((ops[k]?).bind (·.dst)) with | some d => decide (d < n) | none => true) && (List.range ops.size).all fun j => (j == k) || (dstOfN ops j != dstOfN ops k)
section
variable {P : Program} {ops : Array Oper} {a0 : Act} {w0 : World} {F : Nat → Value → World → Prop} {E : Nat → World → Prop} {R : Nat → World → World → Prop} {G : World → Prop} {Q : Exit → Act → World → Prop}

/-- What holds between two operations. -/
structure MidN (ops : Array Oper) (a0 : Act) (F : Nat → Value → World → Prop) (E : Nat → World → Prop) (G : World → Prop) (listed : Array Bool) (a : Act) (w : World) : Prop where
  size : listed.size = ops.size
  defers : a.defers = a0.defers
  tmps : a.tmps.size = a0.tmps.size
  out : ∀ t, (List.range ops.size).all (fun k => dstOfN ops k != t) = true → a.tmps[t]? = a0.tmps[t]?
  late : ∀ t, (∀ k, k < ops.size → dstOfN ops k = t → listed.getD k false = false) → a.tmps[t]? = a0.tmps[t]?
  closed : ∀ k o, ops[k]? = some o → listed.getD k false = true → ∀ j ∈ predsOf o, listed.getD j false = true
  done : ∀ k, listed.getD k false = true → F k (a.eval (.tmp (dstOfN ops k))) w
  todo : ∀ k, k < ops.size → listed.getD k true = false → E k w
  glob : G w

theorem dst_of_okN {n : Nat} (hok : dstsOkN ops n = true) {k : Nat} {o : Oper} (hk : ops[k]? = some o) : (o.dst = some (dstOfN ops k) ∧ dstOfN ops k < n) ∨ (o.dst = none ∧ n ≤ dstOfN ops k) := by
  have hlt : k < ops.size := (Array.getElem?_eq_some_iff.1 hk).1
  unfold dstsOkN at hok
  rw [Bool.and_eq_true, decide_eq_true_eq] at hok
  have h := List.all_eq_true.1 hok.2 k (List.mem_range.2 hlt)
  simp only [hk, Option.bind_some, Bool.and_eq_true] at h
  cases hd : o.dst with
  | none =>
    have e : dstOfN ops k = 1000000 + k := by simp [dstOfN, hk, hd]
    exact .inr ⟨rfl, by omega⟩
  | some d =>
    have e : dstOfN ops k = d := by simp [dstOfN, hk, hd]
    rw [hd] at h
    rw [e]
    exact .inl ⟨rfl, by simpa using h.1⟩
theorem dst_neN {n : Nat} (hok : dstsOkN ops n = true) {j k : Nat} (hj : j < ops.size) (hk : k < ops.size) (hne : j ≠ k) : dstOfN ops j ≠ dstOfN ops k := by
  unfold dstsOkN at hok
  rw [Bool.and_eq_true, decide_eq_true_eq] at hok
  have h := List.all_eq_true.1 hok.2 k (List.mem_range.2 hk)
  simp only [Bool.and_eq_true] at h
  have h2 := List.all_eq_true.1 h.2 j (List.mem_range.2 hj)
  simp only [Bool.or_eq_true, beq_iff_eq, bne_iff_ne] at h2
  rcases h2 with h2 | h2
  · exact absurd h2 hne
  · exact h2
theorem not_dstN {t : Nat} (h : (List.range ops.size).all (fun k => dstOfN ops k != t) = true) {k : Nat} (hk : k < ops.size) : dstOfN ops k ≠ t := by
  have := List.all_eq_true.1 h k (List.mem_range.2 hk)
  simpa using this
theorem eval_beyond {a : Act} {t : Nat} (h : a.tmps.size ≤ t) : a.eval (.tmp t) = undef := by
  simp [Act.eval, Array.getElem?_eq_none h]
/-- One operation more. -/
theorem MidN.step (hok : dstsOkN ops a0.tmps.size = true)
    {listed : Array Bool} {a : Act} {w w' : World} (hM : MidN ops a0 F E G listed a w) {i : Nat} {o : Oper} (ho : ops[i]? = some o) (hp : ∀ j ∈ predsOf o, listed.getD j false = true)
    {v : Value} (hv : F i v w') (hU : o.dst = none → F i undef w') (hF : ∀ j v, j ≠ i → listed.getD j false = true → F j v w → F j v w') (hE : ∀ j, j ≠ i → E j w → E j w') (hG : G w') :
    MidN ops a0 F E G (listed.setIfInBounds i true) (a.put o.dst v) w' := by
  have hdd := dst_of_okN hok ho
  have hi : i < ops.size := (Array.getElem?_eq_some_iff.1 ho).1
  have hset : ∀ k, listed.getD k false = true → (listed.setIfInBounds i true).getD k false = true := by
    intro k hk
    by_cases e : k = i
    · subst e; simp [Array.getD_eq_getD_getElem?, hM.size, hi]
    · simpa [Array.getD_eq_getD_getElem?, Array.getElem?_setIfInBounds_ne (Ne.symm e)] using hk
  refine ⟨by simpa using hM.size, by rcases hdd with ⟨hd, -⟩ | ⟨hd, -⟩ <;> rw [hd] <;> exact hM.defers, by rcases hdd with ⟨hd, -⟩ | ⟨hd, -⟩ <;> rw [hd] <;> simpa [Act.put] using hM.tmps, fun t ht => ?_, fun t ht => ?_, fun k o' ho' hk j hj => ?_, fun k hk => ?_, fun k hk hkt => ?_, hG⟩
  · rw [← hM.out t ht]
    rcases hdd with ⟨hd, -⟩ | ⟨hd, -⟩ <;> rw [hd]
    · simp [Act.put, Array.getElem?_setIfInBounds_ne (not_dstN ht hi)]
    · simp [Act.put]
  · have hne : dstOfN ops i ≠ t := by
      intro e
      have := ht i hi e
      simp [Array.getD_eq_getD_getElem?, hM.size, hi] at this
    rw [← hM.late t (fun k hk hkt => by
      have h1 := ht k hk hkt
      cases h2 : listed.getD k false with
      | false => rfl
      | true => rw [hset k h2] at h1; cases h1)]
    rcases hdd with ⟨hd, -⟩ | ⟨hd, -⟩ <;> rw [hd]
    · simp [Act.put, Array.getElem?_setIfInBounds_ne hne]
    · simp [Act.put]
  · by_cases hki : k = i
    · subst hki
      rw [ho] at ho'
      injection ho' with ho'
      subst ho'
      exact hset j (hp j hj)
    · exact hset j (hM.closed k o' ho' (by simpa [Array.getD_eq_getD_getElem?, Array.getElem?_setIfInBounds_ne (Ne.symm hki)] using hk) j hj)
  · by_cases hki : k = i
    · subst hki
      rcases hdd with ⟨hd, hdlt⟩ | ⟨hd, hdge⟩ <;> rw [hd]
      · rw [eval_put_same (by rw [hM.tmps]; exact hdlt)]
        exact hv
      · show F k (a.eval _) w'
        rw [eval_beyond (by rw [hM.tmps]; exact hdge)]
        exact hU hd
    · have hk' : listed.getD k false = true := by
        simpa [Array.getD_eq_getD_getElem?, Array.getElem?_setIfInBounds_ne (Ne.symm hki)] using hk
      have hklt : k < ops.size := by
        rcases Nat.lt_or_ge k ops.size with g | g
        · exact g
        · rw [← hM.size] at g; simp [Array.getD_eq_getD_getElem?, Array.getElem?_eq_none g] at hk'
      rcases hdd with ⟨hd, -⟩ | ⟨hd, -⟩ <;> rw [hd]
      · rw [eval_put_ne (dst_neN hok hi hklt (Ne.symm hki))]
        exact hF k _ hki hk' (hM.done k hk')
      · exact hF k _ hki hk' (hM.done k hk')
  · have hki : k ≠ i := by
      rintro rfl
      simp [Array.getD_eq_getD_getElem?, hM.size, hk] at hkt
    have hk' : listed.getD k true = false := by
      simpa [Array.getD_eq_getD_getElem?, Array.getElem?_setIfInBounds_ne (Ne.symm hki)] using hkt
    exact hE k hki (hM.todo k hk hk')

theorem wpAny_midN (hok : dstsOkN ops a0.tmps.size = true) (hac : acyc ops = true) (hobl : OblAllN P ops a0 F E R G 0 ops.toList) (hU : ∀ k o v w, ops[k]? = some o → o.dst = none → F k v w → F k undef w)
    (hF : ∀ j k v w w', j ≠ k → (∀ o', ops[j]? = some o' → k ∉ predsOf o') → G w → R k w w' → F j v w → F j v w') (hE : ∀ j k w w', j ≠ k → G w → R k w w' → E j w → E j w') (hG : ∀ k w w', G w → R k w w' → G w')
    (hend : ∀ (x : Nat → Value) (w : World), G w → (∀ k, k < ops.size → F k (x k) w) → Q .normal ⟨layAll ops x 0 ops.toList a0.tmps, a0.defers⟩ w) :
    ∀ (fuel : Nat) (listed : Array Bool) (a : Act) (w : World), unlisted listed ≤ fuel → MidN ops a0 F E G listed a w → wpAny P .any ops Q fuel listed a w := by
  have last : ∀ (listed : Array Bool) (a : Act) (w : World), MidN ops a0 F E G listed a w → Region.ready .any ops listed = [] → Q .normal a w := by
    intro listed a w hM hr
    have hall := all_listed hac hM.size hr
    have h := hend (fun k => a.eval (.tmp (dstOfN ops k))) w hM.glob (fun k hk => hM.done k (hall k hk))
    have e : a = ⟨layAll ops (fun k => a.eval (.tmp (dstOfN ops k))) 0 ops.toList a0.tmps, a0.defers⟩ := by
      obtain ⟨t, ds⟩ := a
      have hd : ds = a0.defers := hM.defers
      subst hd
      congr 1
      apply Array.ext_getElem?
      intro d
      by_cases hds : a0.tmps.size ≤ d
      · rw [Array.getElem?_eq_none (by have := hM.tmps; simp only at this; omega), Array.getElem?_eq_none (by rw [layAll_size]; exact hds)]
      by_cases hin : (List.range ops.size).all (fun k => dstOfN ops k != d) = true
      · rw [layAll_get _ _ d _ 0 _ (fun k o ho => by
          have ho' : ops[k]? = some o := by simpa using ho
          rcases dst_of_okN hok ho' with ⟨h1, -⟩ | ⟨h1, -⟩ <;> rw [h1] <;> intro e'
          · injection e' with e'
            exact not_dstN hin (Array.getElem?_eq_some_iff.1 ho').1 e'
          · cases e')]
        exact hM.out d hin
      · obtain ⟨k, hk, hkd⟩ : ∃ k, k < ops.size ∧ dstOfN ops k = d := by
          apply Classical.byContradiction
          intro hno
          refine hin (List.all_eq_true.2 fun k hk => ?_)
          rw [bne_iff_ne]
          exact fun e' => hno ⟨k, List.mem_range.1 hk, e'⟩
        have ho : ops[k]? = some ops[k] := by simp [hk]
        have hdk : ops[k].dst = some d ∧ d < a0.tmps.size := by
          rcases dst_of_okN hok ho with h | ⟨-, h⟩
          · rwa [hkd] at h
          · omega
        rw [layAll_here _ _ d _ 0 _ k ops[k] (by simp [hk]) hdk.1 hdk.2 (fun j o' ho' hj => by
          have ho2 : ops[j]? = some o' := by simpa using ho'
          rcases dst_of_okN hok ho2 with ⟨h1, -⟩ | ⟨h1, -⟩ <;> rw [h1] <;> intro e'
          · injection e' with e'
            exact dst_neN hok (Array.getElem?_eq_some_iff.1 ho2).1 hk hj (e'.trans hkd.symm)
          · cases e')]
        have hsz : d < t.size := by have := hM.tmps; simp only at this; rw [this]; exact hdk.2
        simp [Act.eval, hkd, hsz]
    rw [← e] at h
    exact h
  intro fuel
  induction fuel with
  | zero =>
    intro listed a w hc hM
    have hr : Region.ready .any ops listed = [] := by
      apply List.eq_nil_iff_forall_not_mem.2
      intro i hi
      obtain ⟨hun, o, ho, _⟩ := mem_ready.1 hi
      have hi' : i < ops.size := (Array.getElem?_eq_some_iff.1 ho).1
      have : false ∈ (listed.toList.filter fun b => !b) := by
        rw [List.mem_filter]
        refine ⟨?_, rfl⟩
        have h2 : listed[i]? = some false := by
          simp [Array.getD_eq_getD_getElem?, hM.size, hi'] at hun
          simp [hM.size, hi', hun]
        exact Array.mem_toList_iff.2 (Array.mem_of_getElem? h2)
      have h3 : (listed.toList.filter fun b => !b) = [] := List.eq_nil_of_length_eq_zero (Nat.le_zero.1 hc)
      rw [h3] at this
      cases this
    exact ⟨hr, last listed a w hM hr⟩
  | succ fuel ih =>
    intro listed a w hc hM
    refine ⟨last listed a w hM, fun i hi => ?_⟩
    obtain ⟨hun, o, ho, hall⟩ := mem_ready.1 hi
    have hi' : i < ops.size := (Array.getElem?_eq_some_iff.1 ho).1
    have hfalse : listed[i]? = some false := by
      simp [Array.getD_eq_getD_getElem?, hM.size, hi'] at hun
      simp [hM.size, hi', hun]
    have hc' : unlisted (listed.setIfInBounds i true) ≤ fuel := by
      have := unlisted_set listed.toList i (by simpa using hfalse)
      unfold unlisted at hc ⊢
      rw [Array.toList_setIfInBounds]
      omega
    have hob := hobl.at_ ops.toList 0 i o (by simpa using ho)
    rw [Nat.zero_add] at hob
    have hpr : ∀ j ∈ predsOf o, listed.getD j false = true := by
      intro j hj
      obtain ⟨e, he, rfl⟩ := List.mem_map.1 hj
      obtain ⟨he1, he2⟩ := List.mem_filter.1 he
      exact hall e (Array.mem_toList_iff.1 he1) he2
    have henv : EnvN ops a0 F i o a.eval (yielded ops a.tmps) w := by
      refine ⟨fun _ => rfl, fun _ => rfl, fun _ => rfl, fun t ht => ?_, fun t ht => ?_, fun j hj => ?_, fun j hj => ?_⟩
      · have := hM.out t ht
        simp [Act.eval, Array.getD_eq_getD_getElem?, this]
      · have := hM.late t (fun k hk hkt => by
          cases h2 : listed.getD k false with
          | false => rfl
          | true =>
            exfalso
            have h3 := List.all_eq_true.1 ht k (List.mem_range.2 hk)
            have hok' : ops[k]? = some ops[k] := by simp [hk]
            simp only [hkt, bne_self_eq_false, Bool.false_or, hok', Option.map_some, Option.getD_some] at h3
            have h4 := hM.closed k _ hok' h2 i (by simpa using h3)
            have h5 : listed.getD i false = false := by simp [Array.getD_eq_getD_getElem?, hfalse]
            rw [h5] at h4
            cases h4)
        simp [Act.eval, Array.getD_eq_getD_getElem?, this]
      · obtain ⟨e, he, rfl⟩ := List.mem_map.1 hj
        obtain ⟨he1, he2⟩ := List.mem_filter.1 he
        exact hM.done _ (hall e (Array.mem_toList_iff.1 he1) he2)
      · have hoj : ops[j]? = some ops[j] := by simp [hj]
        rcases dst_of_okN hok hoj with ⟨h1, h2⟩ | ⟨h1, h2⟩
        · have hsz : dstOfN ops j < a.tmps.size := by rw [hM.tmps]; exact h2
          simp only [yielded, hoj, Option.bind_some, h1, Act.eval]
          simp only [Array.getD_eq_getD_getElem?, Array.getElem?_eq_getElem hsz, Option.getD_some]
          generalize a.tmps[dstOfN ops j] = u
          cases u <;> rfl
        · rw [eval_beyond (by rw [hM.tmps]; exact h2)]
          simp only [yielded, hoj, Option.bind_some, h1]
          rfl
    have hob := hob a.eval (yielded ops a.tmps) w hM.glob (hM.todo i hi' (by simpa using hun)) henv
    unfold wpOp
    simp only [ho]
    by_cases hw : Region.wanted o (yielded ops a.tmps) = true
    · rw [if_pos hw] at hob ⊢
      refine .inl (hob.wp fun v w' hp => ih _ _ _ hc' ?_)
      exact hM.step hok ho hpr hp.1 (fun hn => hU i o _ _ ho hn hp.1) (fun j u hj hl h => hF j i u w w' hj (fun o' ho' hmem => by have := getD_flip (hM.closed j o' ho' hl i hmem); rw [hun] at this; cases this) hM.glob hp.2 h) (fun j hj h => hE j i w w' hj hM.glob hp.2 h) (hG i w w' hM.glob hp.2)
    · rw [if_neg hw] at hob ⊢
      refine ih _ _ _ hc' ?_
      exact hM.step hok ho hpr hob (fun _ => hob) (fun j u hj _ h => h) (fun j hj h => h) hM.glob

/-- THE RULE, where what is said of an operation must stand only what comes besides those that it waits for. -/
theorem wp_region_midN {id : Nat} (hm : P.follows .mixedOrders = true) (hok : dstsOkN ops a0.tmps.size = true) (hac : acyc ops = true) (hG0 : G w0.drew) (hE0 : ∀ k, k < ops.size → E k w0.drew)
    (hF : ∀ j k v w w', j ≠ k → (∀ o', ops[j]? = some o' → k ∉ predsOf o') → G w → R k w w' → F j v w → F j v w') (hE : ∀ j k w w', j ≠ k → G w → R k w w' → E j w → E j w') (hG : ∀ k w w', G w → R k w w' → G w')
    (hobl : OblAllN P ops a0 F E R G 0 ops.toList) (hU : ∀ k o v w, ops[k]? = some o → o.dst = none → F k v w → F k undef w)
    (hend : ∀ (x : Nat → Value) (w : World), G w → (∀ k, k < ops.size → F k (x k) w) → Q .normal ⟨layAll ops x 0 ops.toList a0.tmps, a0.defers⟩ w) :
    (Code.region id ops true).wp P Q a0 w0 := by
  refine wp_region_any hm (wpAny_midN hok hac hobl hU hF hE hG hend ops.size _ a0 _ ?_ ?_)
  · simp [unlisted]
  · refine ⟨by simp, rfl, rfl, fun _ _ => rfl, fun _ _ => rfl, fun k o ho hk => ?_, fun k hk => ?_, fun k hk _ => hE0 k hk, hG0⟩
    · have g : k < ops.size := (Array.getElem?_eq_some_iff.1 ho).1
      simp [Array.getD_eq_getD_getElem?, g] at hk
    exfalso
    rcases Nat.lt_or_ge k ops.size with g | g
    · simp [Array.getD_eq_getD_getElem?, g] at hk
    · simp [Array.getD_eq_getD_getElem?, Nat.not_lt.2 g] at hk
end
end Go.Proofs.YtnfkekaeppgaoaaDoor
