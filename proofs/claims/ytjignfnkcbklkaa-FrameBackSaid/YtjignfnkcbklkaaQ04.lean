/-
  Words and small laws of this project's proofs, over any program: a slice that reads as a list of cells; bytes as cells; what the number operators come to. · Memory told by types: what is turned lies in blocks of named types, from a base on; so an object of another type stays. · A region that draws its order, walked operation by operation: whatever order is drawn, each operation finds what those that it waits for have left, and what it leaves stays. One obligation an operation, no branching over orders. · The rule for regions, where nothing that was there is turned: each operation's value is told by a fact that stays while memory grows. · More small laws of memory: whole rows read and laid; what stays where memory grows. · What a law says of its end; arguments that came in.
-/
import Derived.WalkKit
import Derived.WalkSpells
import Derived.WalkLawsBesides
import Derived.Lib.Hide
import Derived.Laws.OwnMore
import Derived.Laws.CopyOwn
import Derived.Laws.BitsAllLaws
import Derived.Deep.RegionLaw
import Derived.Lib.Zigzag
import Derived.Deep.Draws
import Derived.KernelRfl
import Derived.Orders
import Derived.Laws.Rows
import Derived.OpenShut
namespace Go.Proofs.Ytjignfnkcbklkaa
open Go.RowKit

/-- The bytes as cells. -/
def bvs (l : List UInt8) : List Value := l.map fun c => Value.int .u8 (c.toNat : Int)
theorem bvs_length (l : List UInt8) : (bvs l).length = l.length := by simp [bvs]
theorem bvs_append (l m : List UInt8) : bvs (l ++ m) = bvs l ++ bvs m := by simp [bvs]
theorem bvs_take (l : List UInt8) (k : Nat) : (bvs l).take k = bvs (l.take k) := by simp [bvs]
theorem bvs_drop (l : List UInt8) (k : Nat) : (bvs l).drop k = bvs (l.drop k) := by simp [bvs]
theorem bvs_get (l : List UInt8) (k : Nat) (h : k < l.length) : (bvs l)[k]? = some (Value.int .u8 (l[k].toNat : Int)) := by simp [bvs, h]
theorem bvs_one (l : List UInt8) : ∀ u ∈ bvs l, u.oneCell' = true := by
  intro u hu
  simp only [bvs, List.mem_map] at hu
  obtain ⟨c, _, rfl⟩ := hu
  rfl

/-- The cells xs can be read from address A on; they lie below block B. -/
def Rd (w : World) (B : Nat) (A : Option Addr) (xs : List Value) : Prop :=
  ∀ k u, xs[k]? = some u → ∃ b off, A = some ⟨b, off, none⟩ ∧ b < B ∧ w.cell? ⟨b, off + k, none⟩ = some u

section
variable {w w' : World} {B B' : Nat} {A : Option Addr} {xs : List Value}
theorem Rd.nil_ (w : World) (B : Nat) (A : Option Addr) : Rd w B A [] := fun k u h => by simp at h
theorem Rd.keep (h : Rd w B A xs) (hk : ∀ p : Addr, p.block < B → w'.cell? p = w.cell? p) : Rd w' B A xs := fun k u hu => by
  obtain ⟨b, off, e, hb, hc⟩ := h k u hu
  exact ⟨b, off, e, hb, (hk _ hb).trans hc⟩
theorem Rd.more (h : Rd w B A xs) (hB : B ≤ B') : Rd w B' A xs := fun k u hu => by
  obtain ⟨b, off, e, hb, hc⟩ := h k u hu
  exact ⟨b, off, e, Nat.lt_of_lt_of_le hb hB, hc⟩
theorem Rd.below (h : Rd w B A xs) (hb : Below B w w') : Rd w' B A xs := h.keep fun _ hp => hb.cell hp
theorem Rd.drew (h : Rd w B A xs) : Rd w.drew B A xs := h
theorem Rd.alloc (h : Rd w B A xs) (hB : B ≤ w.heap.size) (o : Obj) : Rd (w.alloc o) B A xs := h.keep fun p hp => World.cell?_alloc_lt w o p (by omega)
theorem Rd.setCell (h : Rd w B A xs) {p : Addr} (hB : B ≤ p.block) (u : Value) : Rd (w.setCell p u) B A xs :=
  h.keep fun q hq => World.cell?_setCell_other w p q u (fun e => by subst e; omega)
theorem Rd.grown (h : Rd w B A xs) {row : Option Nat} (hg : w.grownBy w' row) (hB : B ≤ w.heap.size) (hr : ∀ g, row = some g → B ≤ g) : Rd w' B A xs :=
  h.keep fun p hp => World.cell?_of_block (hg.block p.block (by omega) (fun e => by have := hr _ e.symm; omega))
theorem Rd.take (h : Rd w B A xs) (n : Nat) : Rd w B A (xs.take n) := fun k u hu => by
  rw [List.getElem?_take] at hu
  split at hu
  · exact h k u hu
  · cases hu
theorem Rd.drop (h : Rd w B A xs) (n : Nat) : Rd w B (A.map (·.add n)) (xs.drop n) := fun k u hu => by
  rw [List.getElem?_drop] at hu
  obtain ⟨b, off, rfl, hb, hc⟩ := h _ u hu
  exact ⟨b, off + n, by simp [Addr.add_lit], hb, by rw [Nat.add_assoc]; exact hc⟩
theorem Rd.pos (h : Rd w B A xs) (h0 : 0 < xs.length) : ∃ ad, A = some ad ∧ ∀ j v, xs[j]? = some v → w.cell? (ad.add j) = some v := by
  obtain ⟨b, off, rfl, _, _⟩ := h 0 xs[0] (by simp [h0])
  refine ⟨_, rfl, fun j v hv => ?_⟩
  obtain ⟨b', off', e, _, hc⟩ := h j v hv
  injection e with e
  injection e with e1 e2
  subst e1 e2
  rw [Addr.add_lit]
  exact hc
theorem Rd.at_ (h : Rd w B A xs) (h0 : 0 < xs.length) : ∃ b off, A = some ⟨b, off, none⟩ ∧ b < B ∧ ∀ j v, xs[j]? = some v → w.cell? ⟨b, off + j, none⟩ = some v := by
  obtain ⟨b, off, rfl, hb, _⟩ := h 0 xs[0] (by simp [h0])
  refine ⟨b, off, rfl, hb, fun j v hv => ?_⟩
  obtain ⟨b', off', e, _, hc⟩ := h j v hv
  injection e with e
  injection e with e1 e2
  subst e1 e2
  exact hc
theorem Rd.of_own {base : Nat} {e : TypeId} {size n c : Nat} (h : w.ownsRow base e size (.slice A n c) n xs) : Rd w w.heap.size A xs := fun k u hu => by
  have hk : k < xs.length := (List.getElem?_eq_some_iff.1 hu).1
  rcases h.2 with ⟨h0, h1⟩ | ⟨g, cap, cur, h0, hb, hg, _⟩
  · subst h1; have h2 := h.1; simp at h2; subst h2; simp at hk
  · have hA : A = some ⟨g, 0, none⟩ := by injection h0
    subst hA
    exact ⟨g, 0, rfl, (Array.getElem?_eq_some_iff.1 hg).1, by have := h.cells (g := g) rfl k u hu; rwa [Addr.add_lit] at this⟩
theorem Rd.new (w : World) (cs : Array Value) (t : TypeId) : Rd (w.alloc (.cells cs t)) (w.alloc (.cells cs t)).heap.size (some ⟨w.heap.size, 0, none⟩) cs.toList := fun k u hu => by
  refine ⟨_, _, rfl, by simp, ?_⟩
  rw [cell_of_row (w.alloc (.cells cs t)) w.heap.size (0 + k) cs t (0, 0) (heap_alloc_new w _)]
  simpa using hu
/-- A row of the call's own has a slice's form. -/
theorem own_form {base : Nat} {e : TypeId} {size n : Nat} {v : Value} (h : w.ownsRow base e size v n xs) : ∃ A c, v = .slice A n c ∧ n ≤ c ∧ c ≤ maxLen ∧ (n = 0 ∨ ∃ g, A = some ⟨g, 0, none⟩ ∧ base ≤ g ∧ g < w.heap.size) := by
  rcases h.2 with ⟨rfl, rfl⟩ | ⟨g, cap, cur, rfl, hb, hg, hn, hc, _⟩
  · exact ⟨none, 0, rfl, Nat.le_refl _, Nat.zero_le _, .inl rfl⟩
  · exact ⟨_, cap, rfl, hn, hc, .inr ⟨g, rfl, hb, (Array.getElem?_eq_some_iff.1 hg).1⟩⟩
end

section
variable {P : Program}
/-- 'string(b)' of bytes that can be read, none too. -/
theorem run_str (w : World) (src dst e : TypeId) (hs : P.underlying src = some (.slice e)) (he : P.underlying e = some (.int .u8)) (hd : P.underlying dst = some .string)
    (B : Nat) (A : Option Addr) (l : List UInt8) (c : Nat) (h : Rd w B A (bvs l)) (n : Nat) (hn : l.length = n) :
    (convert src dst (.slice A n c)).run P w = .ok (.string ⟨l.toArray⟩) w := by
  subst hn
  cases A with
  | some ad =>
    refine run_convert_bytes_back w src dst e ad c l hs he hd fun j hj => ?_
    obtain ⟨ad', e', hc⟩ := h.pos (by rw [bvs_length]; omega)
    injection e' with e'
    subst e'
    exact hc j _ (bvs_get l j hj)
  | none =>
    cases l with
    | nil =>
      rw [run_convert_bytes_string w src dst e none _ c hs he hd]
      simp [Conv.bytesToString, Sem.run_pure]
      rfl
    | cons a r =>
      obtain ⟨_, _, e', _⟩ := h 0 _ (bvs_get (a :: r) 0 (by simp))
      cases e'

/-- append onto a row of the call's own, whatever the source. -/
theorem run_app (w : World) (base : Nat) (t ty e : TypeId) (i : TypeInfo) (z : Value) (size bytes : Nat) (ht : P.underlying t = some (.slice e)) (hi : P.info? e = some i) (hz : i.zero = some z)
    (hsize : i.size = size) (hby : i.bytes = bytes) (hzs : z.cells.size = size) (hsz : 0 < size)
    (v : Value) (n : Nat) (xs : List Value) (hown : w.ownsRow base e size v n xs)
    (B : Nat) (A : Option Addr) (m c : Nat) (news : List Value) (hr : Rd w B A news) (hm : news.length = m * size) (h1 : ∀ u ∈ news, u.oneCell' = true)
    (h63 : n + m ≤ maxLen) (hbytes : (n + m) * bytes ≤ 140737488355328) (hbase : base ≤ w.heap.size) :
    ∃ v' w', (Builtin.append_ #[t, t] ty #[v, .slice A m c]).run P w = .ok v' w' ∧ w'.ownsRow base e size v' (n + m) (xs ++ news) ∧ w.grownBy w' v.ownBlock := by
  cases A with
  | some ad =>
    obtain ⟨v', w', hrun, h2, h3, _⟩ := run_append_own (P := P) w base t ty e i z size bytes ht hi hz hsize hby hzs hsz v n xs hown ad m c news hm
      (fun j u hu => by
        obtain ⟨ad', e', hc⟩ := hr.pos (by have := (List.getElem?_eq_some_iff.1 hu).1; omega)
        injection e' with e'
        subst e'
        exact hc j u hu) h1 h63 hbytes hbase
    exact ⟨v', w', hrun, h2, h3⟩
  | none =>
    have hn : news = [] := by
      cases news with
      | nil => rfl
      | cons a r => obtain ⟨_, _, e', _⟩ := hr 0 a (by simp); cases e'
    subst hn
    have hm0 : m = 0 := by
      rcases Nat.eq_zero_or_pos m with h0 | h0
      · exact h0
      · have := Nat.mul_pos h0 hsz; simp at hm; omega
    subst hm0
    refine ⟨v, w, ?_, by simpa using hown, ⟨rfl, rfl, rfl, Nat.le_refl _, fun _ _ _ => rfl⟩⟩
    rcases hown.2 with ⟨rfl, rfl⟩ | ⟨g, cap, cur, rfl, _, _, hnc, _⟩
    · simp [Builtin.append_, run_underlying ht, sizeOf, typeInfo, hi, Builtin.lenOf, Builtin.firstCells]
    · simp [Builtin.append_, run_underlying ht, sizeOf, typeInfo, hi, Builtin.lenOf, Builtin.firstCells, hnc, storeCells]

theorem wpList_app {w : World} {ops : Array Oper} {rest : List Oper} {o : Oper} {a : Act} {Q : Exit → Act → World → Prop} (hgd : o.guard = none) (s x : Operand) (t : TypeId)
    (ho : o.op = .call { callee := .builtin .append, args := #[s, x], argTypes := #[t, t] })
    (base : Nat) (e : TypeId) (i : TypeInfo) (z : Value) (size bytes : Nat) (ht : P.underlying t = some (.slice e)) (hi : P.info? e = some i) (hz : i.zero = some z)
    (hsize : i.size = size) (hby : i.bytes = bytes) (hzs : z.cells.size = size) (hsz : 0 < size)
    (v : Value) (n : Nat) (xs : List Value) (hs : a.eval s = v) (hown : w.ownsRow base e size v n xs)
    (B : Nat) (A : Option Addr) (m c : Nat) (news : List Value) (hx : a.eval x = .slice A m c) (hr : Rd w B A news) (hm : news.length = m * size) (h1 : ∀ u ∈ news, u.oneCell' = true)
    (h63 : n + m ≤ maxLen) (hbytes : (n + m) * bytes ≤ 140737488355328) (hbase : base ≤ w.heap.size)
    (h : ∀ v' w', w'.ownsRow base e size v' (n + m) (xs ++ news) → w.grownBy w' v.ownBlock → wpList P ops Q rest (a.put o.dst v') w') : wpList P ops Q (o :: rest) a w := by
  refine wpList_plain hgd fun K hK => ?_
  obtain ⟨v', w', hrun, h2, h3⟩ := run_app (P := P) w base t o.type e i z size bytes ht hi hz hsize hby hzs hsz v n xs hown B A m c news hr hm h1 h63 hbytes hbase
  unfold Oper.wp execOp
  simp only [ho, resolve, invoke, builtin, Sem.run_bind, Sem.run_pure, Result.andThen_ok, List.map_toArray, List.map_cons, List.map_nil, hs, hx, hrun]
  exact hK _ _ (h v' w' h2 h3)
end

section
variable {P : Program}
/-- 'make' of n cells of size one, with room for c. -/
theorem wpList_mk {w : World} {ops : Array Oper} {rest : List Oper} {o : Oper} {a : Act} {Q : Exit → Act → World → Prop} (hgd : o.guard = none) (lo co : Operand) (t : TypeId)
    (ho : o.op = .makeSlice t lo co) (base : Nat) (e : TypeId) (i : TypeInfo) (z : Value) (bytes : Nat) (ht : P.underlying t = some (.slice e)) (hi : P.info? e = some i) (hz : i.zero = some z) (hzs : z.cells = #[z])
    (hsize : i.size = 1) (hby : i.bytes = bytes) (kl kc : IntKind) (l c : Int) (hl : a.eval lo = .int kl l) (hc : a.eval co = .int kc c) (n m : Nat) (hn : l = n) (hm : c = m) (hnm : n ≤ m)
    (hbytes : bytes * m ≤ 281474976710656) (h63 : m ≤ maxLen) (hbase : base ≤ w.heap.size)
    (h : ∀ w', w'.heap[w.heap.size]? = some (.cells (List.replicate m z).toArray e (0, 0)) → w'.ownsRow base e 1 (.slice (some ⟨w.heap.size, 0, none⟩) n m) n (List.replicate n z) → w.grownBy w' none →
      wpList P ops Q rest (a.put o.dst (.slice (some ⟨w.heap.size, 0, none⟩) n m)) w') : wpList P ops Q (o :: rest) a w := by
  subst hn hm hby
  refine wpList_plain hgd fun K hK => ?_
  have h63' : (m : Int) ≤ 9223372036854775807 := by simp only [maxLen] at h63; omega
  have hb' : (i.bytes : Int) * (m : Int) ≤ 281474976710656 := by
    have h : ((i.bytes * m : Nat) : Int) ≤ 281474976710656 := by omega
    rwa [Int.natCast_mul] at h
  have hrun := run_make (P := P) w t e i z ht hi hz kl kc n m (by omega) (by omega) hb' h63'
  simp only [Int.toNat_natCast, hsize, Nat.mul_one, hzs] at hrun
  have hcells : madeCells #[z] m = (List.replicate m z).toArray := by
    apply Array.ext'; rw [toList_madeCells_one]
  rw [hcells] at hrun
  have hnew : (w.alloc (.cells (List.replicate m z).toArray e)).heap[w.heap.size]? = some (.cells (List.replicate m z).toArray e (0, 0)) := heap_alloc_new w _
  have hk := h _ hnew ⟨by simp, .inr ⟨w.heap.size, m, _, rfl, hbase, hnew, hnm, h63, by simp, by simp [List.take_replicate, Nat.min_eq_left hnm]⟩⟩ (World.grownBy_alloc w _ none)
  unfold Oper.wp
  simp only [execOp, ho, hl, hc, Sem.run_bind, Sem.run_pure, Result.andThen_ok, hrun]
  exact hK _ _ hk
/-- A row behind a copy over its head: the cells that went over are its first. -/
theorem own_of_splice {w : World} {base : Nat} {e : TypeId} {g n m : Nat} {cur cs : List Value} (hg : w.heap[g]? = some (.cells (splice cur 0 cs).toArray e (0, 0))) (hb : base ≤ g) (hn : cs.length = n) (hm : cur.length = m) (hnm : n ≤ m) (h63 : m ≤ maxLen) :
    w.ownsRow base e 1 (.slice (some ⟨g, 0, none⟩) n m) n cs := by
  subst hn hm
  refine ⟨by simp, .inr ⟨g, cur.length, _, rfl, hb, hg, hnm, h63, ?_, ?_⟩⟩
  · simp [splice]; omega
  · simp [splice]
end

/-- A block of the call's own is not turned by what turns only an older row. -/
theorem own_kept {w w' : World} {base : Nat} {e : TypeId} {size : Nat} {v : Value} {n : Nat} {xs : List Value} (h : w.ownsRow base e size v n xs) (hb : Below w.heap.size w w') : w'.ownsRow base e size v n xs := by
  refine ⟨h.1, ?_⟩
  rcases h.2 with h0 | ⟨g, cap, cur, rfl, hbg, hg, rest⟩
  · exact .inl h0
  · exact .inr ⟨g, cap, cur, rfl, hbg, by rw [hb.block g (Array.getElem?_eq_some_iff.1 hg).1]; exact hg, rest⟩
theorem own_more {w : World} {base base' : Nat} {e : TypeId} {size : Nat} {v : Value} {n : Nat} {xs : List Value} (h : w.ownsRow base e size v n xs) (hb : base' ≤ base) : w.ownsRow base' e size v n xs := by
  refine ⟨h.1, ?_⟩
  rcases h.2 with h0 | ⟨g, cap, cur, rfl, hbg, hg, rest⟩
  · exact .inl h0
  · exact .inr ⟨g, cap, cur, rfl, by omega, hg, rest⟩
theorem own_block {w : World} {base : Nat} {e : TypeId} {size : Nat} {v : Value} {n : Nat} {xs : List Value} (h : w.ownsRow base e size v n xs) : ∀ k, v.ownBlock = some k → base ≤ k := fun k hk => (h.lt k hk).1

theorem ret_int {k : IntKind} {a b : Int} (h : a = b) : Ending.returned (.int k a) = .returned (.int k b) := by rw [h]

/- the number operators -/
/-- a byte with its highest bit set -/
theorem or128_u8 (x : Int) (h0 : 0 ≤ x) (h1 : x ≤ 255) : bits .or .u8 x 128 = 128 + x % 128 := by
  have h := u8_or x 128 h0 (by omega) (by omega) (by omega)
  have key : ∀ j : Fin 256, (j.val ||| 128) = 128 + j.val % 128 := by decide +kernel
  have k : x.toNat ||| 128 = 128 + x.toNat % 128 := key ⟨x.toNat, by omega⟩
  rw [h, show ((128 : Int).toNat) = 128 from rfl, k]
  omega
/-- bits that are put above those that are there -/
theorem orHigh_u64 (x y : Int) (i : Nat) (h0 : 0 ≤ x) (h1 : x < 2 ^ i) (hy0 : 0 ≤ y) (hy : y % 2 ^ i = 0) (hy1 : y < 18446744073709551616) (hx : x < 18446744073709551616) : bits .or .u64 x y = x + y := by
  have h := u64_or x y h0 hx hy0 hy1
  have e1 : (x.toNat : Int) = x := Int.toNat_of_nonneg h0
  have e2 : (y.toNat : Int) = y := Int.toNat_of_nonneg hy0
  have hx' : x.toNat < 2 ^ i := by
      have : ((x.toNat : Nat) : Int) < ((2 ^ i : Nat) : Int) := by rw [e1]; simpa using h1
      exact_mod_cast this
  have hy' : y.toNat % 2 ^ i = 0 := by
    have : ((y.toNat % 2 ^ i : Nat) : Int) = 0 := by rw [Int.natCast_emod, e2]; simpa using hy
    exact_mod_cast this
  rw [h, Nat.or_comm, nat_join i y.toNat x.toNat hy' hx', Int.natCast_add, e1, e2]
  omega
end Go.Proofs.Ytjignfnkcbklkaa
namespace Go.Proofs.Ytjignfnkcbklkaa
open Go.RowKit

/-- Block g is just these cells of type t. -/
def Blk (w : World) (g : Nat) (t : TypeId) (cs : List Value) : Prop := w.heap[g]? = some (.cells cs.toArray t (0, 0))
/-- Block k is one of cells of type t. -/
def OfType (w : World) (k : Nat) (t : TypeId) : Prop := ∃ cs fr, w.heap[k]? = some (.cells cs t fr)

theorem Blk.lt {w : World} {g : Nat} {t : TypeId} {cs : List Value} (h : Blk w g t cs) : g < w.heap.size := (Array.getElem?_eq_some_iff.1 h).1
theorem Blk.cell {w : World} {g : Nat} {t : TypeId} {cs : List Value} (h : Blk w g t cs) (i : Nat) : w.cell? ⟨g, i, none⟩ = cs[i]? := by
  have := cell_of_row w g i cs.toArray t (0, 0) h
  rw [this]; simp
theorem Blk.frozen {w : World} {g : Nat} {t : TypeId} {cs : List Value} (h : Blk w g t cs) (i : Nat) : w.frozen? ⟨g, i, none⟩ = false := frozen_of_row w g i cs.toArray t h
theorem Blk.set_ {w : World} {g : Nat} {t : TypeId} {cs : List Value} (h : Blk w g t cs) (i : Nat) (u : Value) : Blk (w.setCell ⟨g, i, none⟩ u) g t (cs.set i u) := by
  have := heap_setCell_same w g i cs.toArray t u h
  unfold Blk
  rw [this]
  simp
theorem Blk.ofType {w : World} {g : Nat} {t : TypeId} {cs : List Value} (h : Blk w g t cs) : OfType w g t := ⟨_, _, h⟩
theorem OfType.ne {w : World} {k : Nat} {t t' : TypeId} (h : OfType w k t) (hne : t ≠ t') : ¬ OfType w k t' := by
  rintro ⟨cs, fr, h'⟩
  obtain ⟨cs0, fr0, h⟩ := h
  rw [h] at h'
  injection h' with h'
  injection h' with _ e _
  exact hne e

section
variable {B : Nat} {ts : List TypeId} {w w' w'' : World}
theorem own_type {base : Nat} {e : TypeId} {size n : Nat} {v : Value} {xs : List Value} (h : w.ownsRow base e size v n xs) : ∀ k, v.ownBlock = some k → base ≤ k ∧ OfType w k e := by
  intro k hk
  rcases h.2 with ⟨rfl, _⟩ | ⟨g, cap, cur, rfl, hb, hg, _⟩
  · simp [Value.ownBlock] at hk
  · simp [Value.ownBlock] at hk
    subst hk
    exact ⟨hb, _, _, hg⟩
end
end Go.Proofs.Ytjignfnkcbklkaa
namespace Go.Proofs.Ytjignfnkcbklkaa
open Go.RowKit

/-- What an operation comes to, said of the values alone. -/
def OpSays (P : Program) (o : Oper) (ev : Operand → Value) (w : World) (post : Value → World → Prop) : Prop :=
  match (execOp ev o).run P w with
  | .ok (.value v) w' => post v w'
  | .ok .skip w' => post undef w'
  | .ok (.enter f args) w' => Calls P f args w' fun e w'' => ∃ v, e = .returned v ∧ post v w''
  | _ => False

theorem OpSays.wp {P : Program} {o : Oper} {a : Act} {w : World} {post : Value → World → Prop} {K : Act → World → Prop} {Q : Exit → Act → World → Prop}
    (h : OpSays P o a.eval w post) (hK : ∀ v w', post v w' → K (a.put o.dst v) w') : o.wp P a w K Q := by
  unfold OpSays at h
  unfold Oper.wp
  generalize (execOp a.eval o).run P w = r at *
  cases r with
  | ok n w' =>
    cases n <;> simp only [Oper.upon] at h ⊢ <;> first
      | exact hK _ _ h
      | exact h.elim
      | (refine Calls.mono h fun e w'' he => ?_
         obtain ⟨v, rfl, hp⟩ := he
         exact hK _ _ hp)
  | halt x w' => exact h.elim

/-- The temporary that operation number k writes. -/
def dstOf (ops : Array Oper) (k : Nat) : Nat := ((ops[k]?).bind (·.dst)).getD 0
/-- The operations that number k waits for. -/
def predsOf (o : Oper) : List Nat := (o.after.toList.filter fun e => Region.binds .any e).map (·.on)
def boolOf : Value → Option Bool
  | .bool b => some b
  | _ => none

/-- Is a slot written by operations alone that wait for number i? -/
def lateOk (ops : Array Oper) (i t : Nat) : Bool :=
  (List.range ops.size).all fun k => dstOf ops k != t || ((ops[k]?).map fun o => (predsOf o).contains i).getD false

/-- What an operation may lean on: the frame's slots that the region does not write, and what those before it have left. -/
structure Env (ops : Array Oper) (a0 : Act) (F : Nat → Value → World → Prop) (i : Nat) (o : Oper) (ev : Operand → Value) (yi : Nat → Option Bool) (w : World) : Prop where
  const : ∀ c, ev (.const c) = c
  func : ∀ f, ev (.func f) = .func (.func f) #[] #[]
  glob : ∀ g, ev (.global g) = .pointer (some ⟨g, 0, none⟩)
  out : ∀ t, (List.range ops.size).all (fun k => dstOf ops k != t) = true → ev (.tmp t) = a0.eval (.tmp t)
  late : ∀ t, lateOk ops i t = true → ev (.tmp t) = a0.eval (.tmp t)
  fact : ∀ j ∈ predsOf o, F j (ev (.tmp (dstOf ops j))) w
  yields : ∀ j, j < ops.size → yi j = boolOf (ev (.tmp (dstOf ops j)))

def Obl (P : Program) (ops : Array Oper) (a0 : Act) (F : Nat → Value → World → Prop) (E : Nat → World → Prop) (R : Nat → World → World → Prop) (G : World → Prop) (k : Nat) (o : Oper) : Prop :=
  ∀ (ev : Operand → Value) (yi : Nat → Option Bool) (w : World), G w → E k w → Env ops a0 F k o ev yi w →
    if Region.wanted o yi = true then OpSays P o ev w (fun v w' => F k v w' ∧ R k w w') else F k undef w

def OblAll (P : Program) (ops : Array Oper) (a0 : Act) (F : Nat → Value → World → Prop) (E : Nat → World → Prop) (R : Nat → World → World → Prop) (G : World → Prop) : Nat → List Oper → Prop
  | _, [] => True
  | k, o :: rest => Obl P ops a0 F E R G k o ∧ OblAll P ops a0 F E R G (k + 1) rest

theorem OblAll.at_ {P : Program} {ops : Array Oper} {a0 : Act} {F : Nat → Value → World → Prop} {E : Nat → World → Prop} {R : Nat → World → World → Prop} {G : World → Prop} :
    ∀ (l : List Oper) (n : Nat), OblAll P ops a0 F E R G n l → ∀ k o, l[k]? = some o → Obl P ops a0 F E R G (n + k) o
  | [], _, _, _, _, h => by simp at h
  | x :: l, n, h, 0, o, ho => by simp at ho; subst ho; exact h.1
  | x :: l, n, h, k + 1, o, ho => by
    have := OblAll.at_ l (n + 1) h.2 k o (by simpa using ho)
    rwa [show n + 1 + k = n + (k + 1) by omega] at this

/-- the values that the region has left, laid over the frame -/
def layAll (ops : Array Oper) (x : Nat → Value) : Nat → List Oper → Array Value → Array Value
  | _, [], t => t
  | k, o :: rest, t => layAll ops x (k + 1) rest (match o.dst with | some d => t.setIfInBounds d (x k) | none => t)

/-- Is every operation's temporary there, and no two the same? -/
def dstsOk (ops : Array Oper) (n : Nat) : Bool :=
  (List.range ops.size).all fun k => (match ((ops[k]?).bind (·.dst)) with | some d => decide (d < n) | none => false) && (List.range ops.size).all fun j => (j == k) || (dstOf ops j != dstOf ops k)

/-- Does every operation wait for earlier ones alone? -/
def acyc (ops : Array Oper) : Bool :=
  (List.range ops.size).all fun k => ((((ops[k]?).map (·.after)).getD #[]).toList.all fun e => !Region.binds .any e || decide (e.on < k))

theorem layAll_get (ops : Array Oper) (x : Nat → Value) (d : Nat) : ∀ (l : List Oper) (n : Nat) (t : Array Value), (∀ (k : Nat) (o : Oper), l[k]? = some o → o.dst ≠ some d) → (layAll ops x n l t)[d]? = t[d]?
  | [], _, _, _ => rfl
  | o :: l, n, t, h => by
    rw [layAll, layAll_get ops x d l (n + 1) _ (fun k o' ho' => h (k + 1) o' (by simpa using ho'))]
    have h0 := h 0 o rfl
    cases hd : o.dst with
    | none => rfl
    | some d' =>
      simp only
      rw [Array.getElem?_setIfInBounds_ne (by intro e; subst e; exact h0 hd)]
theorem layAll_here (ops : Array Oper) (x : Nat → Value) (d : Nat) : ∀ (l : List Oper) (n : Nat) (t : Array Value) (k : Nat) (o : Oper), l[k]? = some o → o.dst = some d → d < t.size → (∀ (j : Nat) (o' : Oper), l[j]? = some o' → j ≠ k → o'.dst ≠ some d) →
    (layAll ops x n l t)[d]? = some (x (n + k))
  | [], _, _, _, _, h, _, _, _ => by simp at h
  | y :: l, n, t, 0, o, h, hd, hs, hu => by
    simp at h
    subst h
    rw [layAll, hd]
    simp only
    rw [layAll_get ops x d l (n + 1) _ (fun k o' ho' => hu (k + 1) o' (by simpa using ho') (by omega))]
    simp [hs]
  | y :: l, n, t, k + 1, o, h, hd, hs, hu => by
    rw [layAll, layAll_here ops x d l (n + 1) _ k o (by simpa using h) hd (by cases y.dst <;> simp [hs]) (fun j o' ho' hj => hu (j + 1) o' (by simpa using ho') (by omega))]
    rw [show n + 1 + k = n + (k + 1) by omega]

section
variable {P : Program} {ops : Array Oper} {a0 : Act} {w0 : World} {F : Nat → Value → World → Prop} {E : Nat → World → Prop} {R : Nat → World → World → Prop} {G : World → Prop} {Q : Exit → Act → World → Prop}

/-- What holds between two operations. -/
structure Mid (ops : Array Oper) (a0 : Act) (F : Nat → Value → World → Prop) (E : Nat → World → Prop) (G : World → Prop) (listed : Array Bool) (a : Act) (w : World) : Prop where
  size : listed.size = ops.size
  defers : a.defers = a0.defers
  tmps : a.tmps.size = a0.tmps.size
  out : ∀ t, (List.range ops.size).all (fun k => dstOf ops k != t) = true → a.tmps[t]? = a0.tmps[t]?
  late : ∀ t, (∀ k, k < ops.size → dstOf ops k = t → listed.getD k false = false) → a.tmps[t]? = a0.tmps[t]?
  closed : ∀ k o, ops[k]? = some o → listed.getD k false = true → ∀ j ∈ predsOf o, listed.getD j false = true
  done : ∀ k, listed.getD k false = true → F k (a.eval (.tmp (dstOf ops k))) w
  todo : ∀ k, k < ops.size → listed.getD k true = false → E k w
  glob : G w

theorem dst_of_ok {n : Nat} (hok : dstsOk ops n = true) {k : Nat} {o : Oper} (hk : ops[k]? = some o) : o.dst = some (dstOf ops k) ∧ dstOf ops k < n := by
  have hlt : k < ops.size := (Array.getElem?_eq_some_iff.1 hk).1
  have h := List.all_eq_true.1 hok k (List.mem_range.2 hlt)
  simp only [hk, Option.bind_some, Bool.and_eq_true] at h
  cases hd : o.dst with
  | none => rw [hd] at h; simp at h
  | some d =>
    have e : dstOf ops k = d := by simp [dstOf, hk, hd]
    rw [hd] at h
    rw [e]
    exact ⟨rfl, by simpa using h.1⟩
theorem dst_ne {n : Nat} (hok : dstsOk ops n = true) {j k : Nat} (hj : j < ops.size) (hk : k < ops.size) (hne : j ≠ k) : dstOf ops j ≠ dstOf ops k := by
  have h := List.all_eq_true.1 hok k (List.mem_range.2 hk)
  simp only [Bool.and_eq_true] at h
  have h2 := List.all_eq_true.1 h.2 j (List.mem_range.2 hj)
  simp only [Bool.or_eq_true, beq_iff_eq, bne_iff_ne] at h2
  rcases h2 with h2 | h2
  · exact absurd h2 hne
  · exact h2
theorem not_dst {t : Nat} (h : (List.range ops.size).all (fun k => dstOf ops k != t) = true) {k : Nat} (hk : k < ops.size) : dstOf ops k ≠ t := by
  have := List.all_eq_true.1 h k (List.mem_range.2 hk)
  simpa using this

theorem eval_put_same {a : Act} {d : Nat} {v : Value} (h : d < a.tmps.size) : (a.put (some d) v).eval (.tmp d) = v := by
  simp [Act.eval, Act.put, h]
theorem eval_put_ne {a : Act} {d t : Nat} {v : Value} (h : d ≠ t) : (a.put (some d) v).eval (.tmp t) = a.eval (.tmp t) := by
  simp [Act.eval, Act.put, Array.getElem?_setIfInBounds_ne h]

/-- One operation more. -/
theorem Mid.step (hok : dstsOk ops a0.tmps.size = true)
    {listed : Array Bool} {a : Act} {w w' : World} (hM : Mid ops a0 F E G listed a w) {i : Nat} {o : Oper} (ho : ops[i]? = some o) (hp : ∀ j ∈ predsOf o, listed.getD j false = true)
    {v : Value} (hv : F i v w') (hF : ∀ j v, j ≠ i → listed.getD j false = true → F j v w → F j v w') (hE : ∀ j, j ≠ i → E j w → E j w') (hG : G w') :
    Mid ops a0 F E G (listed.setIfInBounds i true) (a.put o.dst v) w' := by
  obtain ⟨hd, hdlt⟩ := dst_of_ok hok ho
  have hi : i < ops.size := (Array.getElem?_eq_some_iff.1 ho).1
  rw [hd]
  have hset : ∀ k, listed.getD k false = true → (listed.setIfInBounds i true).getD k false = true := by
    intro k hk
    by_cases e : k = i
    · subst e; simp [Array.getD_eq_getD_getElem?, hM.size, hi]
    · simpa [Array.getD_eq_getD_getElem?, Array.getElem?_setIfInBounds_ne (Ne.symm e)] using hk
  refine ⟨by simpa using hM.size, hM.defers, by simpa [Act.put] using hM.tmps, fun t ht => ?_, fun t ht => ?_, fun k o' ho' hk j hj => ?_, fun k hk => ?_, fun k hk hkt => ?_, hG⟩
  · rw [← hM.out t ht]
    simp [Act.put, Array.getElem?_setIfInBounds_ne (not_dst ht hi)]
  · have hne : dstOf ops i ≠ t := by
      intro e
      have := ht i hi e
      simp [Array.getD_eq_getD_getElem?, hM.size, hi] at this
    rw [← hM.late t (fun k hk hkt => by
      have h1 := ht k hk hkt
      cases h2 : listed.getD k false with
      | false => rfl
      | true => rw [hset k h2] at h1; cases h1)]
    simp [Act.put, Array.getElem?_setIfInBounds_ne hne]
  · by_cases hki : k = i
    · subst hki
      rw [ho] at ho'
      injection ho' with ho'
      subst ho'
      exact hset j (hp j hj)
    · exact hset j (hM.closed k o' ho' (by simpa [Array.getD_eq_getD_getElem?, Array.getElem?_setIfInBounds_ne (Ne.symm hki)] using hk) j hj)
  · by_cases hki : k = i
    · subst hki
      rw [eval_put_same (by rw [hM.tmps]; exact hdlt)]
      exact hv
    · have hk' : listed.getD k false = true := by
        simpa [Array.getD_eq_getD_getElem?, Array.getElem?_setIfInBounds_ne (Ne.symm hki)] using hk
      have hklt : k < ops.size := by
        rcases Nat.lt_or_ge k ops.size with g | g
        · exact g
        · rw [← hM.size] at g; simp [Array.getD_eq_getD_getElem?, Array.getElem?_eq_none g] at hk'
      rw [eval_put_ne (dst_ne hok hi hklt (Ne.symm hki))]
      exact hF k _ hki hk' (hM.done k hk')
  · have hki : k ≠ i := by
      rintro rfl
      simp [Array.getD_eq_getD_getElem?, hM.size, hk] at hkt
    have hk' : listed.getD k true = false := by
      simpa [Array.getD_eq_getD_getElem?, Array.getElem?_setIfInBounds_ne (Ne.symm hki)] using hkt
    exact hE k hki (hM.todo k hk hk')

def unlisted (listed : Array Bool) : Nat := (listed.toList.filter fun b => !b).length
theorem unlisted_set : ∀ (l : List Bool) (i : Nat), l[i]? = some false → ((l.set i true).filter fun b => !b).length + 1 = (l.filter fun b => !b).length
  | [], _, h => by simp at h
  | b :: l, 0, h => by simp at h; subst h; simp
  | b :: l, i + 1, h => by
    have ih := unlisted_set l i (by simpa using h)
    cases b <;> simp <;> omega

theorem all_listed (hac : acyc ops = true) {listed : Array Bool} (hs : listed.size = ops.size) (hr : Region.ready .any ops listed = []) : ∀ k, k < ops.size → listed.getD k false = true := by
  intro k
  induction k using Nat.strongRecOn with
  | _ k ih =>
    intro hk
    cases hl : listed.getD k false with
    | true => rfl
    | false =>
      exfalso
      have hmem : k ∈ Region.ready .any ops listed := by
        refine mem_ready.2 ⟨?_, ops[k], by simp [hk], fun e he hb => ?_⟩
        · simpa [Array.getD_eq_getD_getElem?, hs, hk] using hl
        · have h := List.all_eq_true.1 hac k (List.mem_range.2 hk)
          have h2 := List.all_eq_true.1 h e (by simpa [hk] using he)
          simp only [hb, Bool.not_true, Bool.false_or, decide_eq_true_eq] at h2
          exact ih e.on h2 (by omega)
      rw [hr] at hmem
      cases hmem

theorem getD_flip {l : Array Bool} {i : Nat} (h : l.getD i false = true) : l.getD i true = true := by
  rcases Nat.lt_or_ge i l.size with g | g
  · simpa [Array.getD_eq_getD_getElem?, g] using h
  · simp [Array.getD_eq_getD_getElem?, Array.getElem?_eq_none g] at h
theorem wpAny_mid (hok : dstsOk ops a0.tmps.size = true) (hac : acyc ops = true) (hobl : OblAll P ops a0 F E R G 0 ops.toList)
    (hF : ∀ j k v w w', j ≠ k → (∀ o', ops[j]? = some o' → k ∉ predsOf o') → G w → R k w w' → F j v w → F j v w') (hE : ∀ j k w w', j ≠ k → G w → R k w w' → E j w → E j w') (hG : ∀ k w w', G w → R k w w' → G w')
    (hend : ∀ (x : Nat → Value) (w : World), G w → (∀ k, k < ops.size → F k (x k) w) → Q .normal ⟨layAll ops x 0 ops.toList a0.tmps, a0.defers⟩ w) :
    ∀ (fuel : Nat) (listed : Array Bool) (a : Act) (w : World), unlisted listed ≤ fuel → Mid ops a0 F E G listed a w → wpAny P .any ops Q fuel listed a w := by
  have last : ∀ (listed : Array Bool) (a : Act) (w : World), Mid ops a0 F E G listed a w → Region.ready .any ops listed = [] → Q .normal a w := by
    intro listed a w hM hr
    have hall := all_listed hac hM.size hr
    have h := hend (fun k => a.eval (.tmp (dstOf ops k))) w hM.glob (fun k hk => hM.done k (hall k hk))
    have e : a = ⟨layAll ops (fun k => a.eval (.tmp (dstOf ops k))) 0 ops.toList a0.tmps, a0.defers⟩ := by
      obtain ⟨t, ds⟩ := a
      have hd : ds = a0.defers := hM.defers
      subst hd
      congr 1
      apply Array.ext_getElem?
      intro d
      by_cases hin : (List.range ops.size).all (fun k => dstOf ops k != d) = true
      · rw [layAll_get _ _ d _ 0 _ (fun k o ho => by
          have ho' : ops[k]? = some o := by simpa using ho
          rw [(dst_of_ok hok ho').1]
          intro e'
          injection e' with e'
          exact not_dst hin (Array.getElem?_eq_some_iff.1 ho').1 e')]
        exact hM.out d hin
      · obtain ⟨k, hk, hkd⟩ : ∃ k, k < ops.size ∧ dstOf ops k = d := by
          apply Classical.byContradiction
          intro hno
          refine hin (List.all_eq_true.2 fun k hk => ?_)
          rw [bne_iff_ne]
          exact fun e' => hno ⟨k, List.mem_range.1 hk, e'⟩
        have ho : ops[k]? = some ops[k] := by simp [hk]
        have hdk := dst_of_ok hok ho
        rw [hkd] at hdk
        rw [layAll_here _ _ d _ 0 _ k ops[k] (by simp [hk]) hdk.1 hdk.2 (fun j o' ho' hj => by
          have ho2 : ops[j]? = some o' := by simpa using ho'
          rw [(dst_of_ok hok ho2).1]
          intro e'
          injection e' with e'
          exact dst_ne hok (Array.getElem?_eq_some_iff.1 ho2).1 hk hj (e'.trans hkd.symm))]
        have hsz : d < t.size := by have := hM.tmps; simp only at this; rw [this]; exact hdk.2
        simp [Act.eval, hkd, hsz]
    rw [← e] at h
    exact h
  intro fuel
  induction fuel with
  | zero =>
    intro listed a w hc hM
    have hr : Region.ready .any ops listed = [] := by
      apply List.eq_nil_iff_forall_not_mem.2
      intro i hi
      obtain ⟨hun, o, ho, _⟩ := mem_ready.1 hi
      have hi' : i < ops.size := (Array.getElem?_eq_some_iff.1 ho).1
      have : false ∈ (listed.toList.filter fun b => !b) := by
        rw [List.mem_filter]
        refine ⟨?_, rfl⟩
        have h2 : listed[i]? = some false := by
          simp [Array.getD_eq_getD_getElem?, hM.size, hi'] at hun
          simp [hM.size, hi', hun]
        exact Array.mem_toList_iff.2 (Array.mem_of_getElem? h2)
      have h3 : (listed.toList.filter fun b => !b) = [] := List.eq_nil_of_length_eq_zero (Nat.le_zero.1 hc)
      rw [h3] at this
      cases this
    exact ⟨hr, last listed a w hM hr⟩
  | succ fuel ih =>
    intro listed a w hc hM
    refine ⟨last listed a w hM, fun i hi => ?_⟩
    obtain ⟨hun, o, ho, hall⟩ := mem_ready.1 hi
    have hi' : i < ops.size := (Array.getElem?_eq_some_iff.1 ho).1
    have hfalse : listed[i]? = some false := by
      simp [Array.getD_eq_getD_getElem?, hM.size, hi'] at hun
      simp [hM.size, hi', hun]
    have hc' : unlisted (listed.setIfInBounds i true) ≤ fuel := by
      have := unlisted_set listed.toList i (by simpa using hfalse)
      unfold unlisted at hc ⊢
      rw [Array.toList_setIfInBounds]
      omega
    have hob := hobl.at_ ops.toList 0 i o (by simpa using ho)
    rw [Nat.zero_add] at hob
    have hpr : ∀ j ∈ predsOf o, listed.getD j false = true := by
      intro j hj
      obtain ⟨e, he, rfl⟩ := List.mem_map.1 hj
      obtain ⟨he1, he2⟩ := List.mem_filter.1 he
      exact hall e (Array.mem_toList_iff.1 he1) he2
    have henv : Env ops a0 F i o a.eval (yielded ops a.tmps) w := by
      refine ⟨fun _ => rfl, fun _ => rfl, fun _ => rfl, fun t ht => ?_, fun t ht => ?_, fun j hj => ?_, fun j hj => ?_⟩
      · have := hM.out t ht
        simp [Act.eval, Array.getD_eq_getD_getElem?, this]
      · have := hM.late t (fun k hk hkt => by
          cases h2 : listed.getD k false with
          | false => rfl
          | true =>
            exfalso
            have h3 := List.all_eq_true.1 ht k (List.mem_range.2 hk)
            have hok' : ops[k]? = some ops[k] := by simp [hk]
            simp only [hkt, bne_self_eq_false, Bool.false_or, hok', Option.map_some, Option.getD_some] at h3
            have h4 := hM.closed k _ hok' h2 i (by simpa using h3)
            have h5 : listed.getD i false = false := by simp [Array.getD_eq_getD_getElem?, hfalse]
            rw [h5] at h4
            cases h4)
        simp [Act.eval, Array.getD_eq_getD_getElem?, this]
      · obtain ⟨e, he, rfl⟩ := List.mem_map.1 hj
        obtain ⟨he1, he2⟩ := List.mem_filter.1 he
        exact hM.done _ (hall e (Array.mem_toList_iff.1 he1) he2)
      · have hoj : ops[j]? = some ops[j] := by simp [hj]
        obtain ⟨h1, h2⟩ := dst_of_ok hok hoj
        have hsz : dstOf ops j < a.tmps.size := by rw [hM.tmps]; exact h2
        simp only [yielded, hoj, Option.bind_some, h1, Act.eval]
        simp only [Array.getD_eq_getD_getElem?, Array.getElem?_eq_getElem hsz, Option.getD_some]
        generalize a.tmps[dstOf ops j] = u
        cases u <;> rfl
    have hob := hob a.eval (yielded ops a.tmps) w hM.glob (hM.todo i hi' (by simpa using hun)) henv
    unfold wpOp
    simp only [ho]
    by_cases hw : Region.wanted o (yielded ops a.tmps) = true
    · rw [if_pos hw] at hob ⊢
      refine .inl (hob.wp fun v w' hp => ih _ _ _ hc' ?_)
      exact hM.step hok ho hpr hp.1 (fun j u hj hl h => hF j i u w w' hj (fun o' ho' hmem => by have := getD_flip (hM.closed j o' ho' hl i hmem); rw [hun] at this; cases this) hM.glob hp.2 h) (fun j hj h => hE j i w w' hj hM.glob hp.2 h) (hG i w w' hM.glob hp.2)
    · rw [if_neg hw] at hob ⊢
      refine ih _ _ _ hc' ?_
      exact hM.step hok ho hpr hob (fun j u hj _ h => h) (fun j hj h => h) hM.glob

/-- THE RULE, where what is said of an operation must stand only what comes besides those that it waits for. -/
theorem wp_region_mid2 {id : Nat} (hm : P.follows .mixedOrders = true) (hok : dstsOk ops a0.tmps.size = true) (hac : acyc ops = true) (hG0 : G w0.drew) (hE0 : ∀ k, k < ops.size → E k w0.drew)
    (hF : ∀ j k v w w', j ≠ k → (∀ o', ops[j]? = some o' → k ∉ predsOf o') → G w → R k w w' → F j v w → F j v w') (hE : ∀ j k w w', j ≠ k → G w → R k w w' → E j w → E j w') (hG : ∀ k w w', G w → R k w w' → G w')
    (hobl : OblAll P ops a0 F E R G 0 ops.toList)
    (hend : ∀ (x : Nat → Value) (w : World), G w → (∀ k, k < ops.size → F k (x k) w) → Q .normal ⟨layAll ops x 0 ops.toList a0.tmps, a0.defers⟩ w) :
    (Code.region id ops true).wp P Q a0 w0 := by
  refine wp_region_any hm (wpAny_mid hok hac hobl hF hE hG hend ops.size _ a0 _ ?_ ?_)
  · simp [unlisted]
  · refine ⟨by simp, rfl, rfl, fun _ _ => rfl, fun _ _ => rfl, fun k o ho hk => ?_, fun k hk => ?_, fun k hk _ => hE0 k hk, hG0⟩
    · have g : k < ops.size := (Array.getElem?_eq_some_iff.1 ho).1
      simp [Array.getD_eq_getD_getElem?, g] at hk
    exfalso
    rcases Nat.lt_or_ge k ops.size with g | g
    · simp [Array.getD_eq_getD_getElem?, g] at hk
    · simp [Array.getD_eq_getD_getElem?, Nat.not_lt.2 g] at hk
/-- THE RULE. -/
theorem wp_region_mid {id : Nat} (hm : P.follows .mixedOrders = true) (hok : dstsOk ops a0.tmps.size = true) (hac : acyc ops = true) (hG0 : G w0.drew) (hE0 : ∀ k, k < ops.size → E k w0.drew)
    (hF : ∀ j k v w w', j ≠ k → G w → R k w w' → F j v w → F j v w') (hE : ∀ j k w w', j ≠ k → G w → R k w w' → E j w → E j w') (hG : ∀ k w w', G w → R k w w' → G w')
    (hobl : OblAll P ops a0 F E R G 0 ops.toList)
    (hend : ∀ (x : Nat → Value) (w : World), G w → (∀ k, k < ops.size → F k (x k) w) → Q .normal ⟨layAll ops x 0 ops.toList a0.tmps, a0.defers⟩ w) :
    (Code.region id ops true).wp P Q a0 w0 := by
  exact wp_region_mid2 hm hok hac hG0 hE0 (fun j k v w w' h _ => hF j k v w w' h) hE hG hobl hend
end
end Go.Proofs.Ytjignfnkcbklkaa
namespace Go.Proofs.Ytjignfnkcbklkaa
open Go.RowKit

/-- The value v is a slice of the bytes l, whatever lies behind it. -/
def IsBytes (l : List UInt8) (v : Value) (w : World) : Prop := ∃ A c, v = .slice A l.length c ∧ l.length ≤ c ∧ Rd w w.heap.size A (bvs l)
theorem IsBytes.grow {l : List UInt8} {v : Value} {w w' : World} (h : IsBytes l v w) (hb : Below w.heap.size w w') : IsBytes l v w' := by
  obtain ⟨A, c, rfl, hc, hr⟩ := h
  exact ⟨A, c, rfl, hc, (hr.below hb).more hb.size⟩
theorem IsBytes.of_own {w : World} {base e : Nat} {v : Value} {l : List UInt8} (h : w.ownsRow base e 1 v l.length (bvs l)) : IsBytes l v w := by
  obtain ⟨A, c, rfl, hc, _⟩ := own_form h
  exact ⟨A, c, rfl, hc, Rd.of_own h⟩

/-- The value v is a slice of these cells, whatever lies behind it. -/
def IsCells (xs : List Value) (v : Value) (w : World) : Prop := ∃ A c, v = .slice A xs.length c ∧ xs.length ≤ c ∧ Rd w w.heap.size A xs
theorem IsCells.grow {xs : List Value} {v : Value} {w w' : World} (h : IsCells xs v w) (hb : Below w.heap.size w w') : IsCells xs v w' := by
  obtain ⟨A, c, rfl, hc, hr⟩ := h
  exact ⟨A, c, rfl, hc, (hr.below hb).more hb.size⟩

/-- What is said of a value. -/
inductive Fact where
  | is (c : Value)
  | bytes (l : List UInt8)
  | cells (xs : List Value)
  | such (p : Value → World → Prop) (h : ∀ v w w', p v w → Below w.heap.size w w' → p v w')
  | nothing
def Fact.says : Fact → Value → World → Prop
  | .is c, v, _ => v = c
  | .bytes l, v, w => IsBytes l v w
  | .cells xs, v, w => IsCells xs v w
  | .such p _, v, w => p v w
  | .nothing, _, _ => True
theorem Fact.grow {f : Fact} {v : Value} {w w' : World} (h : f.says v w) (hb : Below w.heap.size w w') : f.says v w' := by
  cases f with
  | is c => exact h
  | bytes l => exact IsBytes.grow h hb
  | cells xs => exact IsCells.grow h hb
  | such p hp => exact hp _ _ _ h hb
  | nothing => trivial

/-- An operation as the prover sees it: its temporary, the operations that it leans on, what is said of its value. -/
structure Row where
  dst : Nat
  need : List Nat
  fact : Fact
def rowAt : List Row → Nat → Row
  | [], _ => ⟨0, [], .nothing⟩
  | r :: _, 0 => r
  | _ :: l, k + 1 => rowAt l k

/-- The slots that the region reads and does not write. -/
def OutsSay (ev : Operand → Value) : List (Nat × Value) → Prop
  | [] => True
  | p :: l => ev (.tmp p.1) = p.2 ∧ OutsSay ev l
def NeedSay (rows : List Row) (ev : Operand → Value) (yi : Nat → Option Bool) (w : World) : List Nat → Prop
  | [] => True
  | j :: l => (rowAt rows j).fact.says (ev (.tmp (rowAt rows j).dst)) w ∧ yi j = boolOf (ev (.tmp (rowAt rows j).dst)) ∧ NeedSay rows ev yi w l

def OblG (P : Program) (w0 : World) (rows : List Row) (outs : List (Nat × Value)) (r : Row) (o : Oper) : Prop :=
  ∀ (ev : Operand → Value) (yi : Nat → Option Bool) (w : World), Below w0.heap.size w0 w → (∀ c, ev (.const c) = c) → (∀ f, ev (.func f) = .func (.func f) #[] #[]) → OutsSay ev outs → NeedSay rows ev yi w r.need →
    if Region.wanted o yi = true then OpSays P o ev w (fun v w' => r.fact.says v w' ∧ Below w.heap.size w w') else r.fact.says undef w
def OblGAll (P : Program) (w0 : World) (rows : List Row) (outs : List (Nat × Value)) : List Row → List Oper → Prop
  | r :: rs, o :: os => OblG P w0 rows outs r o ∧ OblGAll P w0 rows outs rs os
  | _, _ => True
theorem OblGAll.cons {P : Program} {w0 : World} {rows : List Row} {outs : List (Nat × Value)} {r : Row} {rs : List Row} {o : Oper} {os : List Oper} (h : OblG P w0 rows outs r o) (hs : OblGAll P w0 rows outs rs os) : OblGAll P w0 rows outs (r :: rs) (o :: os) := ⟨h, hs⟩
theorem OblGAll.nil {P : Program} {w0 : World} {rows : List Row} {outs : List (Nat × Value)} : OblGAll P w0 rows outs [] [] := trivial

def outsOk (ops : Array Oper) (outs : List (Nat × Value)) : Bool := outs.all fun p => (List.range ops.size).all (fun k => dstOf ops k != p.1)
/-- Do the rows speak of these operations? -/
def rowsOk (ops : Array Oper) (rows : List Row) : Bool :=
  rows.length == ops.size && (List.range ops.size).all fun k => (rowAt rows k).dst == dstOf ops k && (rowAt rows k).need.all fun j => ((ops[k]?).map fun o => (predsOf o).contains j).getD false

theorem rowAt_get : ∀ (rows : List Row) (k : Nat) (r : Row), rows[k]? = some r → rowAt rows k = r
  | [], _, _, h => by simp at h
  | _ :: _, 0, _, h => by simpa [rowAt] using h
  | _ :: l, k + 1, r, h => rowAt_get l k r (by simpa using h)

section
variable {P : Program} {ops : Array Oper} {a0 : Act} {w0 : World} {Q : Exit → Act → World → Prop}
theorem outs_say {F : Nat → Value → World → Prop} {o : Oper} {ev : Operand → Value} {yi : Nat → Option Bool} {w : World} {i : Nat} (henv : Env ops a0 F i o ev yi w) : ∀ outs : List (Nat × Value), outsOk ops outs = true → OutsSay a0.eval outs → OutsSay ev outs
  | [], _, _ => trivial
  | p :: l, hok, h => by
    simp only [outsOk, List.all_cons, Bool.and_eq_true] at hok
    exact ⟨(henv.out p.1 hok.1).trans h.1, outs_say henv l hok.2 h.2⟩
theorem need_say {rows : List Row} {o : Oper} {ev : Operand → Value} {yi : Nat → Option Bool} {w : World} {i : Nat} (henv : Env ops a0 (fun k => (rowAt rows k).fact.says) i o ev yi w) (hd : ∀ k, k < ops.size → (rowAt rows k).dst = dstOf ops k) :
    ∀ l : List Nat, (∀ j ∈ l, j ∈ predsOf o ∧ j < ops.size) → NeedSay rows ev yi w l
  | [], _ => trivial
  | j :: l, h => by
    have hj := h j (by simp)
    refine ⟨?_, ?_, need_say henv hd l fun i hi => h i (by simp [hi])⟩
    · rw [hd j hj.2]; exact henv.fact j hj.1
    · rw [hd j hj.2]; exact henv.yields j hj.2
theorem oblAll_of_grow {rows : List Row} {outs : List (Nat × Value)} (hout : outsOk ops outs = true) (houts : OutsSay a0.eval outs) (hd : ∀ k, k < ops.size → (rowAt rows k).dst = dstOf ops k) :
    ∀ (l : List Oper) (rs : List Row) (k : Nat), rs.length = l.length → (∀ i r, rs[i]? = some r → rowAt rows (k + i) = r) → OblGAll P w0 rows outs rs l → (∀ (i : Nat) (o : Oper) (r : Row), l[i]? = some o → rs[i]? = some r → ∀ j ∈ r.need, j ∈ predsOf o ∧ j < ops.size) →
    OblAll P ops a0 (fun k => (rowAt rows k).fact.says) (fun _ _ => True) (fun _ w w' => Below w.heap.size w w') (fun w => Below w0.heap.size w0 w) k l
  | [], _, _, _, _, _, _ => trivial
  | o :: l, [], _, hl, _, _, _ => by simp at hl
  | o :: l, r :: rs, k, hl, hr, h, hp => by
    have hrk := hr 0 r rfl
    rw [Nat.add_zero] at hrk
    refine ⟨fun ev yi w hG _ henv => ?_, oblAll_of_grow hout houts hd l rs (k + 1) (by simpa using hl) (fun i r' hi => by rw [← hr (i + 1) r' (by simpa using hi)]; congr 1; omega) h.2 fun i o' r' ho' hr' => hp (i + 1) o' r' (by simpa using ho') (by simpa using hr')⟩
    have := h.1 ev yi w hG henv.const henv.func (outs_say henv outs hout houts) (need_say henv hd _ fun j hj => hp 0 o r rfl rfl j hj)
    simp only [hrk]
    exact this

/-- THE RULE, where memory only grows. 'rows': a row an operation, in the order of the text; 'outs': the slots that are read and not written. -/
theorem wp_region_grow {id : Nat} (rows : List Row) (outs : List (Nat × Value)) (hm : P.follows .mixedOrders = true) (hok : dstsOk ops a0.tmps.size = true) (hac : acyc ops = true) (hrows : rowsOk ops rows = true) (hout : outsOk ops outs = true) (houts : OutsSay a0.eval outs)
    (hobl : OblGAll P w0 rows outs rows ops.toList)
    (hend : ∀ (x : Nat → Value) (w : World), Below w0.heap.size w0 w → (∀ k, k < ops.size → (rowAt rows k).fact.says (x k) w) → Q .normal ⟨layAll ops x 0 ops.toList a0.tmps, a0.defers⟩ w) :
    (Code.region id ops true).wp P Q a0 w0 := by
  simp only [rowsOk, Bool.and_eq_true, beq_iff_eq] at hrows
  have hd : ∀ k, k < ops.size → (rowAt rows k).dst = dstOf ops k := fun k hk => by
    have := List.all_eq_true.1 hrows.2 k (List.mem_range.2 hk)
    simp only [Bool.and_eq_true, beq_iff_eq] at this
    exact this.1
  have hp : ∀ (i : Nat) (o : Oper) (r : Row), ops.toList[i]? = some o → rows[i]? = some r → ∀ j ∈ r.need, j ∈ predsOf o ∧ j < ops.size := by
    intro i o r ho hr j hj
    have ho' : ops[i]? = some o := by simpa using ho
    have hi : i < ops.size := (Array.getElem?_eq_some_iff.1 ho').1
    have h1 := List.all_eq_true.1 hrows.2 i (List.mem_range.2 hi)
    simp only [Bool.and_eq_true] at h1
    have h2 := List.all_eq_true.1 h1.2 j (by rw [rowAt_get rows i r hr]; exact hj)
    simp only [ho', Option.map_some, Option.getD_some] at h2
    have hmem : j ∈ predsOf o := by simpa using h2
    refine ⟨hmem, ?_⟩
    obtain ⟨e, he, rfl⟩ := List.mem_map.1 hmem
    obtain ⟨he1, he2⟩ := List.mem_filter.1 he
    have h := List.all_eq_true.1 hac i (List.mem_range.2 hi)
    have h3 := List.all_eq_true.1 h e (by simpa [ho'] using he1)
    simp only [he2, Bool.not_true, Bool.false_or, decide_eq_true_eq] at h3
    omega
  exact wp_region_mid (F := fun k => (rowAt rows k).fact.says) (E := fun _ _ => True) (R := fun _ w w' => Below w.heap.size w w') (G := fun w => Below w0.heap.size w0 w) hm hok hac (Below.refl _ w0).drew (fun _ _ => trivial)
    (fun _ _ _ _ _ _ _ hR h => Fact.grow h hR) (fun _ _ _ _ _ _ _ _ => trivial) (fun _ _ _ hG hR => hG.trans (hR.mono hG.size))
    (oblAll_of_grow hout houts hd _ rows 0 (by simpa using hrows.1) (fun i r hi => by rw [Nat.zero_add]; exact rowAt_get rows i r hi) hobl hp) hend
end

section
variable {P : Program} {o : Oper} {ev : Operand → Value} {w : World} {post : Value → World → Prop}
/-- A call of a Go function. -/
theorem says_call {f : FuncId} {avs : Array Operand} {ts : Array TypeId} {vs : Array Value} (hcall : ∀ args w, (callFunc f args).run P w = .ok (.enter f args) w) (hop : o.op = .call { callee := .value (.func f), args := avs, argTypes := ts }) (hf : ∀ f, ev (.func f) = .func (.func f) #[] #[]) (hv : avs.map ev = vs)
    (h : Calls P f vs w fun e w'' => ∃ v, e = .returned v ∧ post v w'') : OpSays P o ev w post := by
  subst hv
  have e : (execOp ev o).run P w = .ok (.enter f (avs.map ev)) w := by
    simp [execOp, hop, resolve, invoke, hf, go_sem, hcall]
  unfold OpSays
  rw [e]
  exact h
/-- 'string(b)' of bytes that are told of. -/
theorem says_str {src dst e : TypeId} {x : Operand} {l : List UInt8} (hop : o.op = .convert src dst x) (hs : P.underlying src = some (.slice e)) (he : P.underlying e = some (.int .u8)) (hd : P.underlying dst = some .string)
    (h : IsBytes l (ev x) w) (hp : post (.string ⟨l.toArray⟩) w) : OpSays P o ev w post := by
  obtain ⟨A, c, hv, _, hr⟩ := h
  have e : (execOp ev o).run P w = .ok (.value (.string ⟨l.toArray⟩)) w := by
    simp only [execOp, hop, hv, Sem.run_bind, run_str w src dst e hs he hd _ A l c hr _ rfl, Result.andThen_ok, Sem.run_pure]
  unfold OpSays
  rw [e]
  exact hp
end
end Go.Proofs.Ytjignfnkcbklkaa
namespace Go.Proofs.Ytjignfnkcbklkaa
open Go.RowKit

section
variable {w w' : World} {g : Nat} {t : TypeId} {cs : List Value}
theorem Blk.below {B : Nat} (h : Blk w g t cs) (hb : Below B w w') (hg : g < B) : Blk w' g t cs := by
  unfold Blk
  rw [hb.block g hg]
  exact h
theorem Blk.grow (h : Blk w g t cs) (hb : Below w.heap.size w w') : Blk w' g t cs := h.below hb h.lt
theorem Blk.setOther (h : Blk w g t cs) (a : Addr) (v : Value) (hn : g ≠ a.block) : Blk (w.setCell a v) g t cs := (heap_setCell_other w a g v hn).trans h
theorem Blk.setRow_ (h : Blk w g t cs) (ds : List Value) : Blk (w.setRow g ds.toArray) g t ds := setRow_heap w g cs.toArray ds.toArray t (0, 0) h
theorem Blk.rowOther {g' : Nat} (h : Blk w g t cs) (ds : Array Value) (hn : g ≠ g') : Blk (w.setRow g' ds) g t cs := (setRow_other w g' g ds hn).trans h
theorem below_setRow {B : Nat} (h : Below B w w') (hg : B ≤ g) (ds : Array Value) : Below B w (w'.setRow g ds) :=
  ⟨h.os, h.tape, h.output, by rw [size_setRow]; exact h.size, fun k hk => (setRow_other w' g k ds (by omega)).trans (h.block k hk)⟩
end

theorem bvs_push (l : List UInt8) (c : Nat) : bvs (l ++ [UInt8.ofNat (c % 256)]) = bvs l ++ [Value.int .u8 ((c : Int) % 256)] := by
  have h : (UInt8.ofNat (c % 256)).toNat = c % 256 := by rw [UInt8.toNat_ofNat']; omega
  simp [bvs, h]
/-- Words as cells. -/
def wvs (l : List Nat) : List Value := l.map fun (n : Nat) => Value.int .u64 (n : Int)
theorem wvs_length (l : List Nat) : (wvs l).length = l.length := by simp [wvs]
theorem wvs_append (l m : List Nat) : wvs (l ++ m) = wvs l ++ wvs m := by simp [wvs]
theorem wvs_get (l : List Nat) (k : Nat) (h : k < l.length) : (wvs l)[k]? = some (Value.int .u64 (l[k] : Int)) := by simp [wvs, h]
/-- A row of words of which the first are laid. -/
def wrow (ws : List Nat) (m : Nat) : List Value := wvs ws ++ List.replicate (m - ws.length) (.int .u64 0)
theorem wrow_get (ws : List Nat) (m : Nat) (h : ws.length < m) : (wrow ws m)[ws.length]? = some (.int .u64 0) := by
  unfold wrow
  rw [List.getElem?_append_right (by rw [wvs_length]; exact Nat.le_refl _), wvs_length, Nat.sub_self, List.getElem?_replicate, if_pos (by omega)]
theorem wrow_set (ws : List Nat) (m v : Nat) (h : ws.length < m) : (wrow ws m).set ws.length (.int .u64 (v : Int)) = wrow (ws ++ [v]) m := by
  unfold wrow
  obtain ⟨d, hd⟩ : ∃ d, m - ws.length = d + 1 := ⟨m - ws.length - 1, by omega⟩
  have hd2 : m - (ws ++ [v]).length = d := by simp; omega
  rw [hd, hd2, List.replicate_succ, wvs_append]
  have := List.set_append_right (s := wvs ws) (t := .int .u64 0 :: List.replicate d (.int .u64 0)) ws.length (.int .u64 (v : Int)) (by rw [wvs_length]; exact Nat.le_refl _)
  rw [this, wvs_length, Nat.sub_self]
  simp [wvs]
theorem wrow_full (ws : List Nat) : wrow ws ws.length = wvs ws := by simp [wrow]
theorem Rd.of_blk {w : World} {g : Nat} {t : TypeId} {cs : List Value} (h : Blk w g t cs) : Rd w w.heap.size (some ⟨g, 0, none⟩) cs := fun k u hu =>
  ⟨g, 0, rfl, h.lt, by rw [Nat.zero_add, h.cell]; exact hu⟩

section
variable {P : Program} {o : Oper} {ev : Operand → Value} {w : World} {post : Value → World → Prop}
end

section
variable {P : Program}
/-- 'x[lo:]' of a slice of one-cell elements: what is left behind. -/
theorem run_from (w : World) (t e : TypeId) (ht : P.underlying t = some (.slice e)) (he : (P.info? e).map (·.size) = some 1) (B : Nat) (A : Option Addr) (n c lo : Nat) (xs : List Value) (h : Rd w B A xs) (hn : xs.length = n) (hnc : n ≤ c) (hlo : lo ≤ n) :
    ∃ A' c', (Instr.slice t (.slice A n c) (some (.int .i64 (lo : Int))) none none).run P w = .ok (.slice A' (n - lo) c') w ∧ n - lo ≤ c' ∧ Rd w B A' (xs.drop lo) := by
  have hel : P.elem t = e := by simp [Program.elem, ht]
  have hs : (sizeOf (P.elem t)).run P w = .ok 1 w := by
    rw [hel]
    cases hq : P.info? e with
    | none => simp [hq] at he
    | some i =>
      have : i.size = 1 := by simpa [hq] using he
      simp [sizeOf, typeInfo, hq, this]
  have hr := run_slice_l (P := P) (w := w) t A n c (by rw [hel]; exact ht) .i64 (lo : Int) (by omega) (by omega)
  rw [hs] at hr
  simp only [Result.andThen_ok, Int.toNat_natCast, sliced] at hr
  by_cases hc : c = lo
  · refine ⟨A, c - lo, ?_, by omega, ?_⟩
    · rw [hr]; simp [hc]
    · rw [List.drop_of_length_le (by omega)]
      exact Rd.nil_ _ _ _
  · refine ⟨A.map (·.add lo), c - lo, ?_, by omega, h.drop lo⟩
    rw [hr]
    simp [hc]
theorem exec_from {o : Oper} {ev : Operand → Value} {w : World} {t e : TypeId} {x y : Operand} (hop : o.op = .slice t x (some y) none none) (ht : P.underlying t = some (.slice e)) {A : Option Addr} {n c lo : Nat} (hx : ev x = .slice A n c) (hy : ev y = .int .i64 (lo : Int)) {v : Value}
    (h : (Instr.slice t (.slice A n c) (some (.int .i64 (lo : Int))) none none).run P w = .ok v w) : (execOp ev o).run P w = .ok (.value v) w := by
  have hel : P.elem t = e := by simp [Program.elem, ht]
  have hs := run_sliceAt_slice (P := P) (w := w) t (.slice A n c) (some (.int .i64 (lo : Int))) none none (by rw [hel]; exact ht)
  rw [h] at hs
  simp [execOp, hop, hx, hy, hs]
theorem says_from {o : Oper} {ev : Operand → Value} {w : World} {post : Value → World → Prop} {t e : TypeId} {x y : Operand} (hop : o.op = .slice t x (some y) none none) (ht : P.underlying t = some (.slice e)) (he : (P.info? e).map (·.size) = some 1) {B : Nat} {A : Option Addr} {n c lo : Nat} {xs : List Value}
    (hx : ev x = .slice A n c) (hy : ev y = .int .i64 (lo : Int)) (h : Rd w B A xs) (hn : xs.length = n) (hnc : n ≤ c) (hlo : lo ≤ n) (hp : ∀ A' c', n - lo ≤ c' → Rd w B A' (xs.drop lo) → post (.slice A' (n - lo) c') w) : OpSays P o ev w post := by
  obtain ⟨A', c', hr, h1, h2⟩ := run_from (P := P) w t e ht he B A n c lo xs h hn hnc hlo
  unfold OpSays
  rw [exec_from hop ht hx hy hr]
  exact hp A' c' h1 h2
theorem wpList_from {w : World} {ops : Array Oper} {rest : List Oper} {o : Oper} {a : Act} {Q : Exit → Act → World → Prop} (hgd : o.guard = none) {t e : TypeId} (x y : Operand) (hop : o.op = .slice t x (some y) none none) (ht : P.underlying t = some (.slice e)) (he : (P.info? e).map (·.size) = some 1) (B : Nat) (A : Option Addr) (n c lo : Nat) (xs : List Value)
    (hx : a.eval x = .slice A n c) (hy : a.eval y = .int .i64 (lo : Int)) (h : Rd w B A xs) (hn : xs.length = n) (hnc : n ≤ c) (hlo : lo ≤ n) (hp : ∀ A' c', n - lo ≤ c' → Rd w B A' (xs.drop lo) → wpList P ops Q rest (a.put o.dst (.slice A' (n - lo) c')) w) : wpList P ops Q (o :: rest) a w := by
  refine wpList_plain hgd fun K hK => ?_
  obtain ⟨A', c', hr, h1, h2⟩ := run_from (P := P) w t e ht he B A n c lo xs h hn hnc hlo
  unfold Oper.wp
  rw [exec_from hop ht hx hy hr]
  exact hK _ _ (hp A' c' h1 h2)
end
end Go.Proofs.Ytjignfnkcbklkaa
namespace Go.Proofs.Ytjignfnkcbklkaa
open Go.RowKit

/-- A slice of bytes that came in reads as a list of bytes. -/
theorem rd_of_row {w : World} {a : Option Addr} {len cap : Nat} {zs : List Int}
    (h : (a = none ∧ len = 0 ∧ cap = 0 ∧ zs = []) ∨ ∃ x, a = some x ∧ len ≤ cap ∧ cap ≤ maxLen ∧ zs.length = cap ∧ (∀ i, i < zs.length → w.cell? (x.add i) = some (.int .u8 (zs.getD i 0))) ∧ ∀ n ∈ zs, (Lit.int .u8 n).wf = true) :
    ∃ l : List UInt8, l.length = len ∧ len ≤ cap ∧ cap ≤ 9223372036854775807 ∧ Rd w w.heap.size a (bvs l) := by
  rcases h with ⟨rfl, rfl, rfl, rfl⟩ | ⟨x, rfl, hlc, hcm, hz, hcell, hwf⟩
  · exact ⟨[], rfl, Nat.le_refl _, by omega, Rd.nil_ _ _ _⟩
  · simp only [maxLen] at hcm
    refine ⟨(zs.take len).map fun z => UInt8.ofNat z.toNat, by simp; omega, hlc, by omega, fun k u hu => ?_⟩
    have hk : k < len := by
      have := (List.getElem?_eq_some_iff.1 hu).1
      simp [bvs] at this
      omega
    obtain ⟨b, off, rfl, hc⟩ := ints_at hcell (by omega)
    have hck := hc k (by omega)
    have hz0 : zs[k]? = some zs[k] := by simp
    have hw : 0 ≤ zs[k] ∧ zs[k] ≤ 255 := by
      have := hwf zs[k] (List.getElem_mem _)
      simpa [Lit.wf, IntKind.min, IntKind.max, IntKind.signed, IntKind.bits] using this
    have he : u = .int .u8 (zs.getD k 0) := by
      simp [bvs, hk, hz0] at hu
      rw [← hu]
      simp [List.getD_eq_getElem?_getD, hz0]
      omega
    subst he
    exact ⟨b, off, rfl, World.block_lt_of_cell? w _ hck, hck⟩
/-- 'string(b)' behind a guard that wants it, met in a walk. -/
theorem wpList_strW {P : Program} {w : World} {ops : Array Oper} {rest : List Oper} {o : Oper} {a : Act} {Q : Exit → Act → World → Prop} (hw : Region.wanted o (yielded ops a.tmps) = true) (src dst e : TypeId) (x : Operand)
    (ho : o.op = .convert src dst x) (hs : P.underlying src = some (.slice e)) (he : P.underlying e = some (.int .u8)) (hd : P.underlying dst = some .string)
    (l : List UInt8) (hx : IsBytes l (a.eval x) w)
    (h : wpList P ops Q rest (a.put o.dst (.string ⟨l.toArray⟩)) w) : wpList P ops Q (o :: rest) a w := by
  obtain ⟨A, c, hv, _, hr⟩ := hx
  refine wpList_step fun K hK => ?_
  rw [if_pos hw]
  unfold Oper.wp
  simp only [execOp, ho, hv, Sem.run_bind, run_str w src dst e hs he hd _ A l c hr _ rfl, Result.andThen_ok, Sem.run_pure]
  exact hK _ _ h

end Go.Proofs.Ytjignfnkcbklkaa
