/- A region that draws its order, walked operation by operation: whatever order is drawn, each operation finds what those that it waits for have left, and what it leaves stays. One obligation an operation, no branching over orders. -/
import Derived.Test.YtclhgjjehnmncaaDoorBase
import Derived.Orders
namespace Go.Proofs.YtclhgjjehnmncaaDoor
open Go.RowKit

/-- What an operation comes to, said of the values alone. -/
def OpSays (P : Program) (o : Oper) (ev : Operand → Value) (w : World) (post : Value → World → Prop) : Prop :=
  match (execOp ev o).run P w with
  | .ok (.value v) w' => post v w'
  | .ok .skip w' => post undef w'
  | .ok (.enter f args) w' => Calls P f args w' fun e w'' => ∃ v, e = .returned v ∧ post v w''
  | _ => False

theorem OpSays.wp {P : Program} {o : Oper} {a : Act} {w : World} {post : Value → World → Prop} {K : Act → World → Prop} {Q : Exit → Act → World → Prop}
    (h : OpSays P o a.eval w post) (hK : ∀ v w', post v w' → K (a.put o.dst v) w') : o.wp P a w K Q := by
  unfold OpSays at h
  unfold Oper.wp
  generalize (execOp a.eval o).run P w = r at *
  cases r with
  | ok n w' =>
    cases n <;> simp only [Oper.upon] at h ⊢ <;> first
      | exact hK _ _ h
      | exact h.elim
      | (refine Calls.mono h fun e w'' he => ?_
         obtain ⟨v, rfl, hp⟩ := he
         exact hK _ _ hp)
  | halt x w' => exact h.elim

/-- The temporary that operation number k writes. -/
def dstOf (ops : Array Oper) (k : Nat) : Nat := ((ops[k]?).bind (·.dst)).getD 0
/-- The operations that number k waits for. -/
def predsOf (o : Oper) : List Nat := (o.after.toList.filter fun e => Region.binds .any e).map (·.on)
def boolOf : Value → Option Bool
  | .bool b => some b
  | _ => none

/-- Is a slot written by operations alone that wait for number i? -/
def lateOk (ops : Array Oper) (i t : Nat) : Bool :=
  (List.range ops.size).all fun k => dstOf ops k != t || ((ops[k]?).map fun o => (predsOf o).contains i).getD false

/-- What an operation may lean on: the frame's slots that the region does not write, and what those before it have left. -/
structure Env (ops : Array Oper) (a0 : Act) (F : Nat → Value → World → Prop) (i : Nat) (o : Oper) (ev : Operand → Value) (yi : Nat → Option Bool) (w : World) : Prop where
  const : ∀ c, ev (.const c) = c
  func : ∀ f, ev (.func f) = .func (.func f) #[] #[]
  glob : ∀ g, ev (.global g) = .pointer (some ⟨g, 0, none⟩)
  out : ∀ t, (List.range ops.size).all (fun k => dstOf ops k != t) = true → ev (.tmp t) = a0.eval (.tmp t)
  late : ∀ t, lateOk ops i t = true → ev (.tmp t) = a0.eval (.tmp t)
  fact : ∀ j ∈ predsOf o, F j (ev (.tmp (dstOf ops j))) w
  yields : ∀ j, j < ops.size → yi j = boolOf (ev (.tmp (dstOf ops j)))

def Obl (P : Program) (ops : Array Oper) (a0 : Act) (F : Nat → Value → World → Prop) (E : Nat → World → Prop) (R : Nat → World → World → Prop) (G : World → Prop) (k : Nat) (o : Oper) : Prop :=
  ∀ (ev : Operand → Value) (yi : Nat → Option Bool) (w : World), G w → E k w → Env ops a0 F k o ev yi w →
    if Region.wanted o yi = true then OpSays P o ev w (fun v w' => F k v w' ∧ R k w w') else F k undef w

def OblAll (P : Program) (ops : Array Oper) (a0 : Act) (F : Nat → Value → World → Prop) (E : Nat → World → Prop) (R : Nat → World → World → Prop) (G : World → Prop) : Nat → List Oper → Prop
  | _, [] => True
  | k, o :: rest => Obl P ops a0 F E R G k o ∧ OblAll P ops a0 F E R G (k + 1) rest

theorem OblAll.at_ {P : Program} {ops : Array Oper} {a0 : Act} {F : Nat → Value → World → Prop} {E : Nat → World → Prop} {R : Nat → World → World → Prop} {G : World → Prop} :
    ∀ (l : List Oper) (n : Nat), OblAll P ops a0 F E R G n l → ∀ k o, l[k]? = some o → Obl P ops a0 F E R G (n + k) o
  | [], _, _, _, _, h => by simp at h
  | x :: l, n, h, 0, o, ho => by simp at ho; subst ho; exact h.1
  | x :: l, n, h, k + 1, o, ho => by
    have := OblAll.at_ l (n + 1) h.2 k o (by simpa using ho)
    rwa [show n + 1 + k = n + (k + 1) by omega] at this

/-- the values that the region has left, laid over the frame -/
def layAll (ops : Array Oper) (x : Nat → Value) : Nat → List Oper → Array Value → Array Value
  | _, [], t => t
  | k, o :: rest, t => layAll ops x (k + 1) rest (match o.dst with | some d => t.setIfInBounds d (x k) | none => t)

/-- Is every operation's temporary there, and no two the same? -/
def dstsOk (ops : Array Oper) (n : Nat) : Bool :=
  (List.range ops.size).all fun k => (match ((ops[k]?).bind (·.dst)) with | some d => decide (d < n) | none => false) && (List.range ops.size).all fun j => (j == k) || (dstOf ops j != dstOf ops k)

/-- Does every operation wait for earlier ones alone? -/
def acyc (ops : Array Oper) : Bool :=
  (List.range ops.size).all fun k => ((((ops[k]?).map (·.after)).getD #[]).toList.all fun e => !Region.binds .any e || decide (e.on < k))

theorem layAll_get (ops : Array Oper) (x : Nat → Value) (d : Nat) : ∀ (l : List Oper) (n : Nat) (t : Array Value), (∀ (k : Nat) (o : Oper), l[k]? = some o → o.dst ≠ some d) → (layAll ops x n l t)[d]? = t[d]?
  | [], _, _, _ => rfl
  | o :: l, n, t, h => by
    rw [layAll, layAll_get ops x d l (n + 1) _ (fun k o' ho' => h (k + 1) o' (by simpa using ho'))]
    have h0 := h 0 o rfl
    cases hd : o.dst with
    | none => rfl
    | some d' =>
      simp only
      rw [Array.getElem?_setIfInBounds_ne (by intro e; subst e; exact h0 hd)]
theorem layAll_size (ops : Array Oper) (x : Nat → Value) : ∀ (l : List Oper) (n : Nat) (t : Array Value), (layAll ops x n l t).size = t.size
  | [], _, _ => rfl
  | o :: l, n, t => by
    rw [layAll, layAll_size ops x l (n + 1)]
    cases o.dst <;> simp
theorem layAll_here (ops : Array Oper) (x : Nat → Value) (d : Nat) : ∀ (l : List Oper) (n : Nat) (t : Array Value) (k : Nat) (o : Oper), l[k]? = some o → o.dst = some d → d < t.size → (∀ (j : Nat) (o' : Oper), l[j]? = some o' → j ≠ k → o'.dst ≠ some d) →
    (layAll ops x n l t)[d]? = some (x (n + k))
  | [], _, _, _, _, h, _, _, _ => by simp at h
  | y :: l, n, t, 0, o, h, hd, hs, hu => by
    simp at h
    subst h
    rw [layAll, hd]
    simp only
    rw [layAll_get ops x d l (n + 1) _ (fun k o' ho' => hu (k + 1) o' (by simpa using ho') (by omega))]
    simp [hs]
  | y :: l, n, t, k + 1, o, h, hd, hs, hu => by
    rw [layAll, layAll_here ops x d l (n + 1) _ k o (by simpa using h) hd (by cases y.dst <;> simp [hs]) (fun j o' ho' hj => hu (j + 1) o' (by simpa using ho') (by omega))]
    rw [show n + 1 + k = n + (k + 1) by omega]

section
variable {P : Program} {ops : Array Oper} {a0 : Act} {w0 : World} {F : Nat → Value → World → Prop} {E : Nat → World → Prop} {R : Nat → World → World → Prop} {G : World → Prop} {Q : Exit → Act → World → Prop}

/-- What holds between two operations. -/
structure Mid (ops : Array Oper) (a0 : Act) (F : Nat → Value → World → Prop) (E : Nat → World → Prop) (G : World → Prop) (listed : Array Bool) (a : Act) (w : World) : Prop where
  size : listed.size = ops.size
  defers : a.defers = a0.defers
  tmps : a.tmps.size = a0.tmps.size
  out : ∀ t, (List.range ops.size).all (fun k => dstOf ops k != t) = true → a.tmps[t]? = a0.tmps[t]?
  late : ∀ t, (∀ k, k < ops.size → dstOf ops k = t → listed.getD k false = false) → a.tmps[t]? = a0.tmps[t]?
  closed : ∀ k o, ops[k]? = some o → listed.getD k false = true → ∀ j ∈ predsOf o, listed.getD j false = true
  done : ∀ k, listed.getD k false = true → F k (a.eval (.tmp (dstOf ops k))) w
  todo : ∀ k, k < ops.size → listed.getD k true = false → E k w
  glob : G w

theorem dst_of_ok {n : Nat} (hok : dstsOk ops n = true) {k : Nat} {o : Oper} (hk : ops[k]? = some o) : o.dst = some (dstOf ops k) ∧ dstOf ops k < n := by
  have hlt : k < ops.size := (Array.getElem?_eq_some_iff.1 hk).1
  have h := List.all_eq_true.1 hok k (List.mem_range.2 hlt)
  simp only [hk, Option.bind_some, Bool.and_eq_true] at h
  cases hd : o.dst with
  | none => rw [hd] at h; simp at h
  | some d =>
    have e : dstOf ops k = d := by simp [dstOf, hk, hd]
    rw [hd] at h
    rw [e]
    exact ⟨rfl, by simpa using h.1⟩
theorem dst_ne {n : Nat} (hok : dstsOk ops n = true) {j k : Nat} (hj : j < ops.size) (hk : k < ops.size) (hne : j ≠ k) : dstOf ops j ≠ dstOf ops k := by
  have h := List.all_eq_true.1 hok k (List.mem_range.2 hk)
  simp only [Bool.and_eq_true] at h
  have h2 := List.all_eq_true.1 h.2 j (List.mem_range.2 hj)
  simp only [Bool.or_eq_true, beq_iff_eq, bne_iff_ne] at h2
  rcases h2 with h2 | h2
  · exact absurd h2 hne
  · exact h2
theorem not_dst {t : Nat} (h : (List.range ops.size).all (fun k => dstOf ops k != t) = true) {k : Nat} (hk : k < ops.size) : dstOf ops k ≠ t := by
  have := List.all_eq_true.1 h k (List.mem_range.2 hk)
  simpa using this

theorem eval_put_same {a : Act} {d : Nat} {v : Value} (h : d < a.tmps.size) : (a.put (some d) v).eval (.tmp d) = v := by
  simp [Act.eval, Act.put, h]
theorem eval_put_ne {a : Act} {d t : Nat} {v : Value} (h : d ≠ t) : (a.put (some d) v).eval (.tmp t) = a.eval (.tmp t) := by
  simp [Act.eval, Act.put, Array.getElem?_setIfInBounds_ne h]

/-- One operation more. -/
theorem Mid.step (hok : dstsOk ops a0.tmps.size = true)
    {listed : Array Bool} {a : Act} {w w' : World} (hM : Mid ops a0 F E G listed a w) {i : Nat} {o : Oper} (ho : ops[i]? = some o) (hp : ∀ j ∈ predsOf o, listed.getD j false = true)
    {v : Value} (hv : F i v w') (hF : ∀ j v, j ≠ i → F j v w → F j v w') (hE : ∀ j, j ≠ i → E j w → E j w') (hG : G w') :
    Mid ops a0 F E G (listed.setIfInBounds i true) (a.put o.dst v) w' := by
  obtain ⟨hd, hdlt⟩ := dst_of_ok hok ho
  have hi : i < ops.size := (Array.getElem?_eq_some_iff.1 ho).1
  rw [hd]
  have hset : ∀ k, listed.getD k false = true → (listed.setIfInBounds i true).getD k false = true := by
    intro k hk
    by_cases e : k = i
    · subst e; simp [Array.getD_eq_getD_getElem?, hM.size, hi]
    · simpa [Array.getD_eq_getD_getElem?, Array.getElem?_setIfInBounds_ne (Ne.symm e)] using hk
  refine ⟨by simpa using hM.size, hM.defers, by simpa [Act.put] using hM.tmps, fun t ht => ?_, fun t ht => ?_, fun k o' ho' hk j hj => ?_, fun k hk => ?_, fun k hk hkt => ?_, hG⟩
  · rw [← hM.out t ht]
    simp [Act.put, Array.getElem?_setIfInBounds_ne (not_dst ht hi)]
  · have hne : dstOf ops i ≠ t := by
      intro e
      have := ht i hi e
      simp [Array.getD_eq_getD_getElem?, hM.size, hi] at this
    rw [← hM.late t (fun k hk hkt => by
      have h1 := ht k hk hkt
      cases h2 : listed.getD k false with
      | false => rfl
      | true => rw [hset k h2] at h1; cases h1)]
    simp [Act.put, Array.getElem?_setIfInBounds_ne hne]
  · by_cases hki : k = i
    · subst hki
      rw [ho] at ho'
      injection ho' with ho'
      subst ho'
      exact hset j (hp j hj)
    · exact hset j (hM.closed k o' ho' (by simpa [Array.getD_eq_getD_getElem?, Array.getElem?_setIfInBounds_ne (Ne.symm hki)] using hk) j hj)
  · by_cases hki : k = i
    · subst hki
      rw [eval_put_same (by rw [hM.tmps]; exact hdlt)]
      exact hv
    · have hk' : listed.getD k false = true := by
        simpa [Array.getD_eq_getD_getElem?, Array.getElem?_setIfInBounds_ne (Ne.symm hki)] using hk
      have hklt : k < ops.size := by
        rcases Nat.lt_or_ge k ops.size with g | g
        · exact g
        · rw [← hM.size] at g; simp [Array.getD_eq_getD_getElem?, Array.getElem?_eq_none g] at hk'
      rw [eval_put_ne (dst_ne hok hi hklt (Ne.symm hki))]
      exact hF k _ hki (hM.done k hk')
  · have hki : k ≠ i := by
      rintro rfl
      simp [Array.getD_eq_getD_getElem?, hM.size, hk] at hkt
    have hk' : listed.getD k true = false := by
      simpa [Array.getD_eq_getD_getElem?, Array.getElem?_setIfInBounds_ne (Ne.symm hki)] using hkt
    exact hE k hki (hM.todo k hk hk')

def unlisted (listed : Array Bool) : Nat := (listed.toList.filter fun b => !b).length
theorem unlisted_set : ∀ (l : List Bool) (i : Nat), l[i]? = some false → ((l.set i true).filter fun b => !b).length + 1 = (l.filter fun b => !b).length
  | [], _, h => by simp at h
  | b :: l, 0, h => by simp at h; subst h; simp
  | b :: l, i + 1, h => by
    have ih := unlisted_set l i (by simpa using h)
    cases b <;> simp <;> omega

theorem all_listed (hac : acyc ops = true) {listed : Array Bool} (hs : listed.size = ops.size) (hr : Region.ready .any ops listed = []) : ∀ k, k < ops.size → listed.getD k false = true := by
  intro k
  induction k using Nat.strongRecOn with
  | _ k ih =>
    intro hk
    cases hl : listed.getD k false with
    | true => rfl
    | false =>
      exfalso
      have hmem : k ∈ Region.ready .any ops listed := by
        refine mem_ready.2 ⟨?_, ops[k], by simp [hk], fun e he hb => ?_⟩
        · simpa [Array.getD_eq_getD_getElem?, hs, hk] using hl
        · have h := List.all_eq_true.1 hac k (List.mem_range.2 hk)
          have h2 := List.all_eq_true.1 h e (by simpa [hk] using he)
          simp only [hb, Bool.not_true, Bool.false_or, decide_eq_true_eq] at h2
          exact ih e.on h2 (by omega)
      rw [hr] at hmem
      cases hmem

theorem wpAny_mid (hok : dstsOk ops a0.tmps.size = true) (hac : acyc ops = true) (hobl : OblAll P ops a0 F E R G 0 ops.toList)
    (hF : ∀ j k v w w', j ≠ k → G w → R k w w' → F j v w → F j v w') (hE : ∀ j k w w', j ≠ k → G w → R k w w' → E j w → E j w') (hG : ∀ k w w', G w → R k w w' → G w')
    (hend : ∀ (x : Nat → Value) (w : World), G w → (∀ k, k < ops.size → F k (x k) w) → Q .normal ⟨layAll ops x 0 ops.toList a0.tmps, a0.defers⟩ w) :
    ∀ (fuel : Nat) (listed : Array Bool) (a : Act) (w : World), unlisted listed ≤ fuel → Mid ops a0 F E G listed a w → wpAny P .any ops Q fuel listed a w := by
  have last : ∀ (listed : Array Bool) (a : Act) (w : World), Mid ops a0 F E G listed a w → Region.ready .any ops listed = [] → Q .normal a w := by
    intro listed a w hM hr
    have hall := all_listed hac hM.size hr
    have h := hend (fun k => a.eval (.tmp (dstOf ops k))) w hM.glob (fun k hk => hM.done k (hall k hk))
    have e : a = ⟨layAll ops (fun k => a.eval (.tmp (dstOf ops k))) 0 ops.toList a0.tmps, a0.defers⟩ := by
      obtain ⟨t, ds⟩ := a
      have hd : ds = a0.defers := hM.defers
      subst hd
      congr 1
      apply Array.ext_getElem?
      intro d
      by_cases hin : (List.range ops.size).all (fun k => dstOf ops k != d) = true
      · rw [layAll_get _ _ d _ 0 _ (fun k o ho => by
          have ho' : ops[k]? = some o := by simpa using ho
          rw [(dst_of_ok hok ho').1]
          intro e'
          injection e' with e'
          exact not_dst hin (Array.getElem?_eq_some_iff.1 ho').1 e')]
        exact hM.out d hin
      · obtain ⟨k, hk, hkd⟩ : ∃ k, k < ops.size ∧ dstOf ops k = d := by
          apply Classical.byContradiction
          intro hno
          refine hin (List.all_eq_true.2 fun k hk => ?_)
          rw [bne_iff_ne]
          exact fun e' => hno ⟨k, List.mem_range.1 hk, e'⟩
        have ho : ops[k]? = some ops[k] := by simp [hk]
        have hdk := dst_of_ok hok ho
        rw [hkd] at hdk
        rw [layAll_here _ _ d _ 0 _ k ops[k] (by simp [hk]) hdk.1 hdk.2 (fun j o' ho' hj => by
          have ho2 : ops[j]? = some o' := by simpa using ho'
          rw [(dst_of_ok hok ho2).1]
          intro e'
          injection e' with e'
          exact dst_ne hok (Array.getElem?_eq_some_iff.1 ho2).1 hk hj (e'.trans hkd.symm))]
        have hsz : d < t.size := by have := hM.tmps; simp only at this; rw [this]; exact hdk.2
        simp [Act.eval, hkd, hsz]
    rw [← e] at h
    exact h
  intro fuel
  induction fuel with
  | zero =>
    intro listed a w hc hM
    have hr : Region.ready .any ops listed = [] := by
      apply List.eq_nil_iff_forall_not_mem.2
      intro i hi
      obtain ⟨hun, o, ho, _⟩ := mem_ready.1 hi
      have hi' : i < ops.size := (Array.getElem?_eq_some_iff.1 ho).1
      have : false ∈ (listed.toList.filter fun b => !b) := by
        rw [List.mem_filter]
        refine ⟨?_, rfl⟩
        have h2 : listed[i]? = some false := by
          simp [Array.getD_eq_getD_getElem?, hM.size, hi'] at hun
          simp [hM.size, hi', hun]
        exact Array.mem_toList_iff.2 (Array.mem_of_getElem? h2)
      have h3 : (listed.toList.filter fun b => !b) = [] := List.eq_nil_of_length_eq_zero (Nat.le_zero.1 hc)
      rw [h3] at this
      cases this
    exact ⟨hr, last listed a w hM hr⟩
  | succ fuel ih =>
    intro listed a w hc hM
    refine ⟨last listed a w hM, fun i hi => ?_⟩
    obtain ⟨hun, o, ho, hall⟩ := mem_ready.1 hi
    have hi' : i < ops.size := (Array.getElem?_eq_some_iff.1 ho).1
    have hfalse : listed[i]? = some false := by
      simp [Array.getD_eq_getD_getElem?, hM.size, hi'] at hun
      simp [hM.size, hi', hun]
    have hc' : unlisted (listed.setIfInBounds i true) ≤ fuel := by
      have := unlisted_set listed.toList i (by simpa using hfalse)
      unfold unlisted at hc ⊢
      rw [Array.toList_setIfInBounds]
      omega
    have hob := hobl.at_ ops.toList 0 i o (by simpa using ho)
    rw [Nat.zero_add] at hob
    have hpr : ∀ j ∈ predsOf o, listed.getD j false = true := by
      intro j hj
      obtain ⟨e, he, rfl⟩ := List.mem_map.1 hj
      obtain ⟨he1, he2⟩ := List.mem_filter.1 he
      exact hall e (Array.mem_toList_iff.1 he1) he2
    have henv : Env ops a0 F i o a.eval (yielded ops a.tmps) w := by
      refine ⟨fun _ => rfl, fun _ => rfl, fun _ => rfl, fun t ht => ?_, fun t ht => ?_, fun j hj => ?_, fun j hj => ?_⟩
      · have := hM.out t ht
        simp [Act.eval, Array.getD_eq_getD_getElem?, this]
      · have := hM.late t (fun k hk hkt => by
          cases h2 : listed.getD k false with
          | false => rfl
          | true =>
            exfalso
            have h3 := List.all_eq_true.1 ht k (List.mem_range.2 hk)
            have hok' : ops[k]? = some ops[k] := by simp [hk]
            simp only [hkt, bne_self_eq_false, Bool.false_or, hok', Option.map_some, Option.getD_some] at h3
            have h4 := hM.closed k _ hok' h2 i (by simpa using h3)
            have h5 : listed.getD i false = false := by simp [Array.getD_eq_getD_getElem?, hfalse]
            rw [h5] at h4
            cases h4)
        simp [Act.eval, Array.getD_eq_getD_getElem?, this]
      · obtain ⟨e, he, rfl⟩ := List.mem_map.1 hj
        obtain ⟨he1, he2⟩ := List.mem_filter.1 he
        exact hM.done _ (hall e (Array.mem_toList_iff.1 he1) he2)
      · have hoj : ops[j]? = some ops[j] := by simp [hj]
        obtain ⟨h1, h2⟩ := dst_of_ok hok hoj
        have hsz : dstOf ops j < a.tmps.size := by rw [hM.tmps]; exact h2
        simp only [yielded, hoj, Option.bind_some, h1, Act.eval]
        simp only [Array.getD_eq_getD_getElem?, Array.getElem?_eq_getElem hsz, Option.getD_some]
        generalize a.tmps[dstOf ops j] = u
        cases u <;> rfl
    have hob := hob a.eval (yielded ops a.tmps) w hM.glob (hM.todo i hi' (by simpa using hun)) henv
    unfold wpOp
    simp only [ho]
    by_cases hw : Region.wanted o (yielded ops a.tmps) = true
    · rw [if_pos hw] at hob ⊢
      refine .inl (hob.wp fun v w' hp => ih _ _ _ hc' ?_)
      exact hM.step hok ho hpr hp.1 (fun j u hj h => hF j i u w w' hj hM.glob hp.2 h) (fun j hj h => hE j i w w' hj hM.glob hp.2 h) (hG i w w' hM.glob hp.2)
    · rw [if_neg hw] at hob ⊢
      refine ih _ _ _ hc' ?_
      exact hM.step hok ho hpr hob (fun j u hj h => h) (fun j hj h => h) hM.glob

/-- THE RULE. -/
theorem wp_region_mid {id : Nat} (hm : P.follows .mixedOrders = true) (hok : dstsOk ops a0.tmps.size = true) (hac : acyc ops = true) (hG0 : G w0.drew) (hE0 : ∀ k, k < ops.size → E k w0.drew)
    (hF : ∀ j k v w w', j ≠ k → G w → R k w w' → F j v w → F j v w') (hE : ∀ j k w w', j ≠ k → G w → R k w w' → E j w → E j w') (hG : ∀ k w w', G w → R k w w' → G w')
    (hobl : OblAll P ops a0 F E R G 0 ops.toList)
    (hend : ∀ (x : Nat → Value) (w : World), G w → (∀ k, k < ops.size → F k (x k) w) → Q .normal ⟨layAll ops x 0 ops.toList a0.tmps, a0.defers⟩ w) :
    (Code.region id ops true).wp P Q a0 w0 := by
  refine wp_region_any hm (wpAny_mid hok hac hobl hF hE hG hend ops.size _ a0 _ ?_ ?_)
  · simp [unlisted]
  · refine ⟨by simp, rfl, rfl, fun _ _ => rfl, fun _ _ => rfl, fun k o ho hk => ?_, fun k hk => ?_, fun k hk _ => hE0 k hk, hG0⟩
    · have g : k < ops.size := (Array.getElem?_eq_some_iff.1 ho).1
      simp [Array.getD_eq_getD_getElem?, g] at hk
    exfalso
    rcases Nat.lt_or_ge k ops.size with g | g
    · simp [Array.getD_eq_getD_getElem?, g] at hk
    · simp [Array.getD_eq_getD_getElem?, Nat.not_lt.2 g] at hk
end
end Go.Proofs.YtclhgjjehnmncaaDoor
