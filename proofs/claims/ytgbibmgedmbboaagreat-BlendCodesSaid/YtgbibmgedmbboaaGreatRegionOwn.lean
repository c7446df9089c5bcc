/- A region that draws its order, in which one operation turns a row of one's own (append), and all others only read or make memory. General: no code of the project. -/
import Derived.Test.YtgbibmgedmbboaaGreatBase
namespace Go.Proofs.YtgbibmgedmbboaaGreat
open Go.RowKit

section
variable {P : Program} {ops : Array Oper} {a0 : Act} {w0 : World} {Q : Exit → Act → World → Prop}
/-- How the world stands meanwhile. -/
def Amid (w0 : World) (base : Nat) (w : World) : Prop := Below base w0 w ∧ w0.heap.size ≤ w.heap.size
def OblH (P : Program) (w0 : World) (base : Nat) (rows : List Row) (outs : List (Nat × Value)) (r : Row) (o : Oper) : Prop :=
  ∀ (ev : Operand → Value) (yi : Nat → Option Bool) (w : World), Amid w0 base w → (∀ c, ev (.const c) = c) → (∀ f, ev (.func f) = .func (.func f) #[] #[]) → OutsSay ev outs → NeedSay rows ev yi w r.need →
    if Region.wanted o yi = true then OpSays P o ev w (fun v w' => r.fact.says v w' ∧ Below w.heap.size w w') else r.fact.says undef w
def OblHAll (P : Program) (w0 : World) (base : Nat) (rows : List Row) (outs : List (Nat × Value)) (ka : Nat) : Nat → List Row → List Oper → Prop
  | k, r :: rs, o :: os => (k ≠ ka → OblH P w0 base rows outs r o) ∧ OblHAll P w0 base rows outs ka (k + 1) rs os
  | _, _, _ => True
theorem OblHAll.cons {P : Program} {w0 : World} {base : Nat} {rows : List Row} {outs : List (Nat × Value)} {ka k : Nat} {r : Row} {rs : List Row} {o : Oper} {os : List Oper} (h : k ≠ ka → OblH P w0 base rows outs r o) (hs : OblHAll P w0 base rows outs ka (k + 1) rs os) : OblHAll P w0 base rows outs ka k (r :: rs) (o :: os) := ⟨h, hs⟩
theorem OblHAll.nil {P : Program} {w0 : World} {base : Nat} {rows : List Row} {outs : List (Nat × Value)} {ka k : Nat} : OblHAll P w0 base rows outs ka k [] [] := trivial
/-- The obligation of the operation that turns the row. -/
def OblKa (P : Program) (w0 : World) (base e size : Nat) (v0 : Value) (n0 : Nat) (xs : List Value) (rows : List Row) (outs : List (Nat × Value)) (r : Row) (o : Oper) : Prop :=
  ∀ (ev : Operand → Value) (yi : Nat → Option Bool) (w : World), Amid w0 base w → w.ownsRow base e size v0 n0 xs → (∀ c, ev (.const c) = c) → (∀ f, ev (.func f) = .func (.func f) #[] #[]) → OutsSay ev outs → NeedSay rows ev yi w r.need →
    if Region.wanted o yi = true then OpSays P o ev w (fun v w' => r.fact.says v w' ∧ w.grownBy w' v0.ownBlock) else r.fact.says undef w
theorem oblAll_of_own {rows : List Row} {outs : List (Nat × Value)} {ka base e size : Nat} {v0 : Value} {n0 : Nat} {xs : List Value} (hout : outsOk ops outs = true) (houts : OutsSay a0.eval outs) (hd : ∀ k, k < ops.size → (rowAt rows k).dst = dstOf ops k)
    (hka : ∀ o, ops[ka]? = some o → OblKa P w0 base e size v0 n0 xs rows outs (rowAt rows ka) o) :
    ∀ (l : List Oper) (rs : List Row) (k : Nat), rs.length = l.length → (∀ i r, rs[i]? = some r → rowAt rows (k + i) = r) → (∀ i o, l[i]? = some o → ops[k + i]? = some o) → OblHAll P w0 base rows outs ka k rs l → (∀ (i : Nat) (o : Oper) (r : Row), l[i]? = some o → rs[i]? = some r → ∀ j ∈ r.need, j ∈ predsOf o ∧ j < ops.size) →
    OblAll P ops a0 (fun k => (rowAt rows k).fact.says) (fun k w => if k = ka then w.ownsRow base e size v0 n0 xs else True) (fun k w w' => if k = ka then w.grownBy w' v0.ownBlock else Below w.heap.size w w') (Amid w0 base) k l
  | [], _, _, _, _, _, _, _ => trivial
  | o :: l, [], _, hl, _, _, _, _ => by simp at hl
  | o :: l, r :: rs, k, hl, hr, ho, h, hp => by
    have hrk := hr 0 r rfl
    have hok := ho 0 o rfl
    rw [Nat.add_zero] at hrk hok
    refine ⟨fun ev yi w hG hE henv => ?_, oblAll_of_own hout houts hd hka l rs (k + 1) (by simpa using hl) (fun i r' hi => by rw [← hr (i + 1) r' (by simpa using hi)]; congr 1; omega) (fun i o' hi => by rw [← ho (i + 1) o' (by simpa using hi)]; congr 1; omega) h.2 fun i o' r' ho' hr' => hp (i + 1) o' r' (by simpa using ho') (by simpa using hr')⟩
    by_cases hk : k = ka
    · subst hk
      simp only [if_true] at hE
      have := hka o hok ev yi w hG hE henv.const henv.func (outs_say henv outs hout houts) (need_say henv hd _ fun j hj => hp 0 o r rfl rfl j (by rw [hrk] at hj; exact hj))
      simp only [if_true]
      exact this
    · have := h.1 hk ev yi w hG henv.const henv.func (outs_say henv outs hout houts) (need_say henv hd _ fun j hj => hp 0 o r rfl rfl j hj)
      simp only [hrk, if_neg hk]
      exact this
/-- THE RULE, where one operation, number ka, turns a row of one's own. -/
theorem wp_region_own {id : Nat} (rows : List Row) (outs : List (Nat × Value)) (ka base e size : Nat) (v0 : Value) (n0 : Nat) (xs : List Value) (hown : w0.ownsRow base e size v0 n0 xs) (hbase : base ≤ w0.heap.size)
    (hst : ∀ j, j ≠ ka → (∀ o', ops[j]? = some o' → ka ∉ predsOf o') → ∀ v w w', Amid w0 base w → w.grownBy w' v0.ownBlock → (rowAt rows j).fact.says v w → (rowAt rows j).fact.says v w')
    (hm : P.follows .mixedOrders = true) (hok : dstsOk ops a0.tmps.size = true) (hac : acyc ops = true) (hrows : rowsOk ops rows = true) (hout : outsOk ops outs = true) (houts : OutsSay a0.eval outs)
    (hobl : OblHAll P w0 base rows outs ka 0 rows ops.toList) (hka : ∀ o, ops[ka]? = some o → OblKa P w0 base e size v0 n0 xs rows outs (rowAt rows ka) o)
    (hend : ∀ (x : Nat → Value) (w : World), Amid w0 base w → (∀ k, k < ops.size → (rowAt rows k).fact.says (x k) w) → Q .normal ⟨layAll ops x 0 ops.toList a0.tmps, a0.defers⟩ w) :
    (Code.region id ops true).wp P Q a0 w0 := by
  simp only [rowsOk, Bool.and_eq_true, beq_iff_eq] at hrows
  have hd : ∀ k, k < ops.size → (rowAt rows k).dst = dstOf ops k := fun k hk => by
    have := List.all_eq_true.1 hrows.2 k (List.mem_range.2 hk)
    simp only [Bool.and_eq_true, beq_iff_eq] at this
    exact this.1
  have hp : ∀ (i : Nat) (o : Oper) (r : Row), ops.toList[i]? = some o → rows[i]? = some r → ∀ j ∈ r.need, j ∈ predsOf o ∧ j < ops.size := by
    intro i o r ho hr j hj
    have ho' : ops[i]? = some o := by simpa using ho
    have hi : i < ops.size := (Array.getElem?_eq_some_iff.1 ho').1
    have h1 := List.all_eq_true.1 hrows.2 i (List.mem_range.2 hi)
    simp only [Bool.and_eq_true] at h1
    have h2 := List.all_eq_true.1 h1.2 j (by rw [rowAt_get rows i r hr]; exact hj)
    simp only [ho', Option.map_some, Option.getD_some] at h2
    have hmem : j ∈ predsOf o := by simpa using h2
    refine ⟨hmem, ?_⟩
    obtain ⟨e, he, rfl⟩ := List.mem_map.1 hmem
    obtain ⟨he1, he2⟩ := List.mem_filter.1 he
    have h := List.all_eq_true.1 hac i (List.mem_range.2 hi)
    have h3 := List.all_eq_true.1 h e (by simpa [ho'] using he1)
    simp only [he2, Bool.not_true, Bool.false_or, decide_eq_true_eq] at h3
    omega
  refine wp_region_mid2 (F := fun k => (rowAt rows k).fact.says) (E := fun k w => if k = ka then w.ownsRow base e size v0 n0 xs else True) (R := fun k w w' => if k = ka then w.grownBy w' v0.ownBlock else Below w.heap.size w w') (G := Amid w0 base) hm hok hac ⟨(Below.refl base w0).drew, Nat.le_refl _⟩ (fun k _ => ?_) ?_ ?_ ?_
    (oblAll_of_own hout houts hd hka _ rows 0 (by simpa using hrows.1) (fun i r hi => by rw [Nat.zero_add]; exact rowAt_get rows i r hi) (fun i o hi => by rw [Nat.zero_add]; simpa using hi) hobl hp) hend
  · by_cases h : k = ka
    · rw [if_pos h]; exact hown
    · rw [if_neg h]; trivial
  · intro j k v w w' hjk hpre hG hR hF
    by_cases h : k = ka
    · rw [if_pos h] at hR; exact hst j (by rw [← h]; exact hjk) (by rw [← h]; exact hpre) v w w' hG hR hF
    · rw [if_neg h] at hR; exact Fact.grow hF hR
  · intro j k w w' hjk hG hR hE
    by_cases hj : j = ka
    · rw [if_pos hj] at hE ⊢
      rw [if_neg (by rw [← hj]; exact fun h => hjk h.symm)] at hR
      exact own_kept hE hR
    · rw [if_neg hj]; trivial
  · intro k w w' hG hR
    by_cases h : k = ka
    · rw [if_pos h] at hR
      exact ⟨hG.1.grown hR (Nat.le_trans hbase hG.2) (own_block hown), Nat.le_trans hG.2 hR.size⟩
    · rw [if_neg h] at hR
      exact ⟨hG.1.trans (hR.mono (Nat.le_trans hbase hG.2)), Nat.le_trans hG.2 hR.size⟩
/-- append onto a row of one's own, as the operation of a region. -/
theorem says_app {o : Oper} {ev : Operand → Value} {w : World} {post : Value → World → Prop} {s x : Operand} {t : TypeId} (hop : o.op = .call { callee := .builtin .append, args := #[s, x], argTypes := #[t, t] })
    (base : Nat) (e : TypeId) (i : TypeInfo) (z : Value) (size bytes : Nat) (ht : P.underlying t = some (.slice e)) (hi : P.info? e = some i) (hz : i.zero = some z)
    (hsize : i.size = size) (hby : i.bytes = bytes) (hzs : z.cells.size = size) (hsz : 0 < size)
    (v : Value) (n : Nat) (xs : List Value) (hs : ev s = v) (hown : w.ownsRow base e size v n xs)
    (B : Nat) (A : Option Addr) (m c : Nat) (news : List Value) (hx : ev x = .slice A m c) (hr : Rd w B A news) (hm : news.length = m * size) (h1 : ∀ u ∈ news, u.oneCell' = true)
    (h63 : n + m ≤ maxLen) (hbytes : (n + m) * bytes ≤ 140737488355328) (hbase : base ≤ w.heap.size)
    (h : ∀ v' w', w'.ownsRow base e size v' (n + m) (xs ++ news) → w.grownBy w' v.ownBlock → post v' w') : OpSays P o ev w post := by
  obtain ⟨v', w', hrun, h2, h3⟩ := run_app (P := P) w base t o.type e i z size bytes ht hi hz hsize hby hzs hsz v n xs hown B A m c news hr hm h1 h63 hbytes hbase
  unfold OpSays execOp
  simp only [hop, resolve, invoke, builtin, Sem.run_bind, Sem.run_pure, Result.andThen_ok, List.map_toArray, List.map_cons, List.map_nil, hs, hx, hrun]
  exact h v' w' h2 h3
end
end Go.Proofs.YtgbibmgedmbboaaGreat
