/- Contracts of layer 14: parts; the closures of Norm. -/
import Derived.Test.YtcaefobaochokaaNormFn
namespace Go.Proofs.Ytcaefobaochokaa
open Go.RowKit Go.Sort Go.Shelf

section
variable {P : Program} {o : Oper} {ev : Operand → Value} {w : World} {post : Value → World → Prop}
/-- 'make' of n cells of size one. -/
theorem says_mk {t : TypeId} {lo co : Operand} (hop : o.op = .makeSlice t lo co) (e : TypeId) (i : TypeInfo) (z : Value) (ht : P.underlying t = some (.slice e)) (hi : P.info? e = some i) (hz : i.zero = some z) (hzs : z.cells = #[z])
    (hsize : i.size = 1) (hby : i.bytes ≤ 8) (n : Nat) (hl : ev lo = .int .i64 (n : Int)) (hc : ev co = .int .i64 (n : Int)) (hn : n ≤ 1000000)
    (hp : post (.slice (some ⟨w.heap.size, 0, none⟩) n n) (w.alloc (.cells (List.replicate n z).toArray e))) : OpSays P o ev w post := by
  have hbn : ((i.bytes * n : Nat) : Int) ≤ 281474976710656 := by have := Nat.mul_le_mul_right n hby; omega
  rw [Int.natCast_mul] at hbn
  have hrun := run_make (P := P) w t e i z ht hi hz .i64 .i64 n n (by omega) (Int.le_refl _) hbn (by omega)
  simp only [Int.toNat_natCast, hsize, Nat.mul_one, hzs] at hrun
  have hcells : madeCells #[z] n = (List.replicate n z).toArray := by
    apply Array.ext'; rw [toList_madeCells_one]
  rw [hcells] at hrun
  have e : (execOp ev o).run P w = .ok (.value (.slice (some ⟨w.heap.size, 0, none⟩) n n)) (w.alloc (.cells (List.replicate n z).toArray e)) := by
    simp only [execOp, hop, hl, hc, Sem.run_bind, Sem.run_pure, Result.andThen_ok, hrun]
  unfold OpSays
  rw [e]
  exact hp
end

/-- A new row of n noughts. -/
def NewRow (B n : Nat) (v : Value) (w : World) : Prop := ∃ g, v = .slice (some ⟨g, 0, none⟩) n n ∧ B ≤ g ∧ Blk w g 3 (zvs (List.replicate n 0))
theorem NewRow.grow (B n : Nat) (v : Value) (w w' : World) (h : NewRow B n v w) (hb : Below w.heap.size w w') : NewRow B n v w' := by
  obtain ⟨g, h1, h2, h3⟩ := h
  exact ⟨g, h1, h2, h3.grow hb⟩

/-- The shares of the first k counts. -/
def partRow (c : List Int) (t : Int) (k : Nat) : List Int := (c.take k).map (nShare t c.sum) ++ List.replicate (c.length - k) 0
theorem partRow_zero (c : List Int) (t : Int) : partRow c t 0 = List.replicate c.length 0 := by simp [partRow]
theorem partRow_all (c : List Int) (t : Int) : partRow c t c.length = c.map (nShare t c.sum) := by simp [partRow]
theorem partRow_set (c : List Int) (t : Int) {k : Nat} (h : k < c.length) : (partRow c t k).set k (nShare t c.sum c[k]) = partRow c t (k + 1) := by
  unfold partRow
  have hl : ((c.take k).map (nShare t c.sum)).length = k := by simp; omega
  rw [List.set_append_right _ _ (by omega), hl, Nat.sub_self, List.take_add_one, List.getElem?_eq_getElem h]
  have e : c.length - k = (c.length - (k + 1)) + 1 := by omega
  rw [e, List.replicate_succ, List.set_cons_zero, List.map_append, List.append_assoc]
  rfl
theorem partRow_skip (c : List Int) (t : Int) {k : Nat} (h : k < c.length) (h0 : c[k] = 0) : partRow c t k = partRow c t (k + 1) := by
  rw [← partRow_set c t h]
  have hl : ((c.take k).map (nShare t c.sum)).length = k := by simp; omega
  unfold partRow
  rw [List.set_append_right _ _ (by omega), hl, Nat.sub_self]
  have e : c.length - k = (c.length - (k + 1)) + 1 := by omega
  rw [e, List.replicate_succ, List.set_cons_zero, h0]
  simp [nShare]
theorem partRow_len (c : List Int) (t : Int) {k : Nat} (h : k ≤ c.length) : (partRow c t k).length = c.length := by unfold partRow; simp; omega

/-- The quotient, made good. -/
theorem nShare_max {t s x : Int} (hx : 0 < x) (ht : 0 ≤ t) (hs : 0 < s) : nShare t s x = if t * x / s < 1 then 1 else t * x / s := by
  unfold nShare
  rw [Int.mul_comm x t]
  have h0 : 0 ≤ t * x / s := Int.ediv_nonneg (Int.mul_nonneg ht (by omega)) (by omega)
  by_cases h : t * x / s = 0
  · rw [if_pos ⟨hx, h⟩, if_pos (by omega)]
  · rw [if_neg (fun hh => h hh.2), if_neg (by omega)]
theorem prod_le {t x : Int} (ht0 : 0 ≤ t) (ht : t ≤ 65536) (hx0 : 0 ≤ x) (hx : x ≤ 1099511627776) : 0 ≤ t * x ∧ t * x ≤ 72057594037927936 := by
  refine ⟨Int.mul_nonneg ht0 hx0, ?_⟩
  have h1 : t * x ≤ 65536 * x := Int.mul_le_mul_of_nonneg_right ht hx0
  omega
theorem quo_le {a s : Int} (ha : 0 ≤ a) (hs : 0 < s) : 0 ≤ a / s ∧ a / s ≤ a := ⟨Int.ediv_nonneg ha (by omega), Int.ediv_le_self _ ha⟩

theorem nShare_val {t s x : Int} (ht0 : 0 ≤ t) (ht : t ≤ 65536) (hx0 : 0 < x) (hx : x ≤ 1099511627776) (hs : 0 < s) : max (wrap64 ((wrap64 (t * x)).tdiv s)) 1 = nShare t s x := by
  have hp := prod_le ht0 ht (by omega) hx
  have hq := quo_le hp.1 hs
  rw [nShare_max hx0 ht0 hs, IntWalk.wrap64_in (t * x) (by omega), Int.tdiv_eq_ediv_of_nonneg hp.1, IntWalk.wrap64_in (t * x / s) (by omega)]
  generalize t * x / s = q at *
  split <;> omega

section
variable {w : World} {B : Nat} {A : Option Addr} {n m : Nat} {c : List Int}
end
end Go.Proofs.Ytcaefobaochokaa
