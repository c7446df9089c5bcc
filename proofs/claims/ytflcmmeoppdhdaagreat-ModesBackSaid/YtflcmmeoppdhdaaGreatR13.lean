/-
  Layer 20: the heap's own methods. · Layer 20: the reference's Kraft.
-/
import Derived.Test.YtflcmmeoppdhdaaGreatR03
import Derived.Test.YtflcmmeoppdhdaaGreatR10
import Derived.Test.YtflcmmeoppdhdaaGreatR12
import Derived.RegionTactic
import Derived.BigRegion
import Derived.Shelf.Abstract
namespace Go.Proofs.YtflcmmeoppdhdaaGreat
open Go.RowKit Go.Sort Go.Shelf

/-- Things as cells. -/
def pvs (l : List Pr) : List Value := l.flatMap fun p => [.int .i64 (p.1 : Int), .int .i64 (p.2 : Int)]
theorem pvs_cons (p : Pr) (l : List Pr) : pvs (p :: l) = .int .i64 (p.1 : Int) :: .int .i64 (p.2 : Int) :: pvs l := rfl
theorem pvs_length (l : List Pr) : (pvs l).length = l.length * 2 := by
  induction l with
  | nil => rfl
  | cons p l ih => rw [pvs_cons]; simp only [List.length_cons, ih]; omega
theorem pvs_append (l m : List Pr) : pvs (l ++ m) = pvs l ++ pvs m := by simp [pvs]
theorem pvs_get0 (l : List Pr) : ∀ k, k < l.length → (pvs l)[k * 2]? = some (.int .i64 ((pat l k).1 : Int)) := by
  induction l with
  | nil => intro k h; simp at h
  | cons p l ih =>
    intro k h
    cases k with
    | zero => simp [pvs_cons, pat]
    | succ k =>
      have := ih k (by simpa using h)
      rw [pvs_cons, show (k + 1) * 2 = k * 2 + 1 + 1 by omega, List.getElem?_cons_succ, List.getElem?_cons_succ, this]
      simp [pat]
theorem pvs_get1 (l : List Pr) : ∀ k, k < l.length → (pvs l)[k * 2 + 1]? = some (.int .i64 ((pat l k).2 : Int)) := by
  induction l with
  | nil => intro k h; simp at h
  | cons p l ih =>
    intro k h
    cases k with
    | zero => simp [pvs_cons, pat]
    | succ k =>
      have := ih k (by simpa using h)
      rw [pvs_cons, show (k + 1) * 2 + 1 = k * 2 + 1 + 1 + 1 by omega, List.getElem?_cons_succ, List.getElem?_cons_succ, this]
      simp [pat]
theorem pvs_set (l : List Pr) (x : Pr) : ∀ k, k < l.length → ((pvs l).set (k * 2) (.int .i64 (x.1 : Int))).set (k * 2 + 1) (.int .i64 (x.2 : Int)) = pvs (l.set k x) := by
  induction l with
  | nil => intro k h; simp at h
  | cons p l ih =>
    intro k h
    cases k with
    | zero => simp [pvs_cons]
    | succ k =>
      have := ih k (by simpa using h)
      rw [pvs_cons, show (k + 1) * 2 = k * 2 + 1 + 1 by omega, List.set_cons_succ, List.set_cons_succ, List.set_cons_succ, List.set_cons_succ, this]
      rfl
theorem pvs_take (l : List Pr) (k : Nat) : (pvs l).take (k * 2) = pvs (l.take k) := by
  induction l generalizing k with
  | nil => simp [pvs]
  | cons p l ih =>
    cases k with
    | zero => simp [pvs]
    | succ k =>
      rw [pvs_cons, show (k + 1) * 2 = k * 2 + 1 + 1 by omega, List.take_succ_cons, List.take_succ_cons, ih, List.take_succ_cons, pvs_cons]
/-- A heap: its variable T, the row S that its things lie in. -/
structure HAt (w : World) (T S cap : Nat) (l : List Pr) : Prop where
  box : Blk w T 281 [.slice (some ⟨S, 0, none⟩) l.length cap]
  row : ∃ cur, Blk w S 284 cur ∧ cur.length = cap * 2 ∧ cur.take (l.length * 2) = pvs l
  room : l.length ≤ cap
  most : cap ≤ maxLen
section
variable {w w' : World} {T S cap : Nat} {l : List Pr}
theorem HAt.ne (h : HAt w T S cap l) : T ≠ S := fun e => by
  obtain ⟨cur, h1, -⟩ := h.row
  have := h.box
  subst e
  unfold Blk at this h1
  rw [this] at h1
  injection h1 with h1
  injection h1 with _ h2
  exact absurd h2 (by decide)
theorem HAt.cell0 (h : HAt w T S cap l) {k : Nat} (hk : k < l.length) : w.cell? ⟨S, k * 2, none⟩ = some (.int .i64 ((pat l k).1 : Int)) := by
  obtain ⟨cur, h1, h2, h3⟩ := h.row
  rw [h1.cell, ← pvs_get0 l k hk, ← h3, List.getElem?_take_of_lt (by omega)]
theorem HAt.cell1 (h : HAt w T S cap l) {k : Nat} (hk : k < l.length) : w.cell? ⟨S, k * 2 + 1, none⟩ = some (.int .i64 ((pat l k).2 : Int)) := by
  obtain ⟨cur, h1, h2, h3⟩ := h.row
  rw [h1.cell, ← pvs_get1 l k hk, ← h3, List.getElem?_take_of_lt (by omega)]
theorem HAt.frozen (h : HAt w T S cap l) (i : Nat) : w.frozen? ⟨S, i, none⟩ = false := by
  obtain ⟨cur, h1, -⟩ := h.row
  exact h1.frozen i
theorem HAt.boxCell (h : HAt w T S cap l) : w.cell? ⟨T, 0, none⟩ = some (.slice (some ⟨S, 0, none⟩) l.length cap) := h.box.cell 0
theorem HAt.grow (h : HAt w T S cap l) (hb : Below w.heap.size w w') : HAt w' T S cap l := by
  obtain ⟨cur, h1, h2⟩ := h.row
  exact ⟨h.box.grow hb, ⟨cur, h1.grow hb, h2⟩, h.room, h.most⟩
theorem HAt.same (h : HAt w T S cap l) (e : w'.heap = w.heap) : HAt w' T S cap l := by
  obtain ⟨cur, h1, h2⟩ := h.row
  exact ⟨h.box.same e, ⟨cur, h1.same e, h2⟩, h.room, h.most⟩
theorem drewN_two (w : World) (a b : Nat) : (w.drewN a).drewN b = w.drewN (a + b) := by simp [World.drewN, Nat.add_assoc]
set_option maxRecDepth 100000 in
theorem things_len (A : Option Addr) (n c : Nat) (w : World) : Calls Tryz.prog 233 #[.slice A n c] w fun e w' => e = .returned (.int .i64 (n : Int)) ∧ w' = w := by
  go_enter Tryz.func233, Tryz.ntmps233
  go_wp2
  go_ret
  exact ⟨rfl, rfl⟩
set_option maxHeartbeats 1000000 in
set_option maxRecDepth 100000 in
theorem things_less_at (x y : Pr) (n i j : Nat) (hi : i < n) (hj : j < n)
    (hx0 : w.cell? ⟨S, i * 2, none⟩ = some (.int .i64 (x.1 : Int))) (hx1 : w.cell? ⟨S, i * 2 + 1, none⟩ = some (.int .i64 (x.2 : Int))) (hy0 : w.cell? ⟨S, j * 2, none⟩ = some (.int .i64 (y.1 : Int))) (hy1 : w.cell? ⟨S, j * 2 + 1, none⟩ = some (.int .i64 (y.2 : Int))) :
    Calls Tryz.prog 308 #[.slice (some ⟨S, 0, none⟩) n cap, .int .i64 (i : Int), .int .i64 (j : Int)] w fun e w' => e = .returned (.bool (pl x y)) ∧ ∃ q, w' = w.drewN q := by
  obtain ⟨x0, x1⟩ := x
  obtain ⟨y0, y1⟩ := y
  simp only at hx0 hx1 hy0 hy1
  by_cases he : x0 = y0
  · subst he
    have hp : pl (x0, x1) (x0, y1) = decide ((x1 : Int) < (y1 : Int)) := by simp [pl]
    rw [hp]
    go_enter Tryz.func308, Tryz.ntmps308
    go_wp2
    go_quiet (fail)
    go_wp2
    go_quiet (fail)
    go_wp2
    go_ret
    exact ⟨by simp, _, drewN_two _ _ _⟩
  · have he2 : ¬ (x0 : Int) = (y0 : Int) := by omega
    have hp : pl (x0, x1) (y0, y1) = decide ((x0 : Int) < (y0 : Int)) := by simp [pl, he]
    rw [hp]
    go_enter Tryz.func308, Tryz.ntmps308
    go_wp2
    go_quiet (fail)
    go_wp2
    go_quiet (fail)
    go_wp2
    go_ret
    exact ⟨by simp, _, drewN_two _ _ _⟩
def swapW (w : World) (S i j : Nat) (x y : Pr) : World :=
  ((((w.setCell ⟨S, i * 2, none⟩ (.int .i64 (y.1 : Int))).setCell ⟨S, i * 2 + 1, none⟩ (.int .i64 (y.2 : Int))).setCell ⟨S, j * 2, none⟩ (.int .i64 (x.1 : Int))).setCell ⟨S, j * 2 + 1, none⟩ (.int .i64 (x.2 : Int))).drew
set_option maxHeartbeats 1000000 in
set_option maxRecDepth 100000 in
theorem things_swap_at (x y : Pr) (n i j : Nat) (hi : i < n) (hj : j < n)
    (hx0 : w.cell? ⟨S, i * 2, none⟩ = some (.int .i64 (x.1 : Int))) (hx1 : w.cell? ⟨S, i * 2 + 1, none⟩ = some (.int .i64 (x.2 : Int))) (hy0 : w.cell? ⟨S, j * 2, none⟩ = some (.int .i64 (y.1 : Int))) (hy1 : w.cell? ⟨S, j * 2 + 1, none⟩ = some (.int .i64 (y.2 : Int)))
    (hf : ∀ k, w.frozen? ⟨S, k, none⟩ = false) :
    Calls Tryz.prog 311 #[.slice (some ⟨S, 0, none⟩) n cap, .int .i64 (i : Int), .int .i64 (j : Int)] w fun e w' => e = .returned (.tuple #[]) ∧ w' = swapW w S i j x y := by
  have f1 := hf (i * 2)
  have f2 := hf (i * 2 + 1)
  have f3 := hf (j * 2)
  have f4 := hf (j * 2 + 1)
  clear hf
  obtain ⟨x0, x1⟩ := x
  obtain ⟨y0, y1⟩ := y
  simp only at hx0 hx1 hy0 hy1
  by_cases hij : i = j
  · subst hij
    have e0 : y0 = x0 := by rw [hx0] at hy0; injection hy0 with h; injection h with _ h; omega
    have e1 : y1 = x1 := by rw [hx1] at hy1; injection hy1 with h; injection h with _ h; omega
    subst e0 e1
    clear hy0 hy1 f3 f4
    go_enter Tryz.func311, Tryz.ntmps311
    go_wp2
    go_region
    go_end0
    exact ⟨rfl, rfl⟩
  · go_enter Tryz.func311, Tryz.ntmps311
    go_wp2
    go_region
    go_end0
    exact ⟨rfl, rfl⟩
theorem list_take_set_lt {α : Type} (l : List α) (n i : Nat) (x : α) : (l.set i x).take n = (l.take n).set i x := List.take_set ..
theorem HAt.swap (h : HAt w T S cap l) {i j : Nat} (hi : i < l.length) (hj : j < l.length) : HAt (swapW w S i j (pat l i) (pat l j)) T S cap (swapP l i j) ∧ TurnsB T S w (swapW w S i j (pat l i) (pat l j)) := by
  have hne := h.ne
  obtain ⟨cur, h1, h2, h3⟩ := h.row
  refine ⟨⟨?_, ⟨(((cur.set (i * 2) (.int .i64 ((pat l j).1 : Int))).set (i * 2 + 1) (.int .i64 ((pat l j).2 : Int))).set (j * 2) (.int .i64 ((pat l i).1 : Int))).set (j * 2 + 1) (.int .i64 ((pat l i).2 : Int)), ?_, ?_, ?_⟩, by rw [swapP_len]; exact h.room, h.most⟩, ?_⟩
  · rw [swapP_len]
    exact ((((h.box.setOther _ _ hne).setOther _ _ hne).setOther _ _ hne).setOther _ _ hne).drew_
  · exact ((((h1.set_ _ _).set_ _ _).set_ _ _).set_ _ _).drew_
  · simp [h2]
  · rw [swapP_len, list_take_set_lt, list_take_set_lt, list_take_set_lt, list_take_set_lt, h3, pvs_set _ _ _ hi, pvs_set _ _ _ (by simpa using hj)]
    rfl
  · exact ((((TurnsB.set_ _ _).trans (TurnsB.set_ _ _)).trans (TurnsB.set_ _ _)).trans (TurnsB.set_ _ _)).drew
theorem things_less (h : HAt w T S cap l) {i j : Nat} (hi : i < l.length) (hj : j < l.length) :
    Calls Tryz.prog 308 #[.slice (some ⟨S, 0, none⟩) l.length cap, .int .i64 (i : Int), .int .i64 (j : Int)] w fun e w' => e = .returned (.bool (pl (pat l i) (pat l j))) ∧ ∃ q, w' = w.drewN q :=
  things_less_at _ _ _ _ _ hi hj (h.cell0 hi) (h.cell1 hi) (h.cell0 hj) (h.cell1 hj)
theorem things_swap (h : HAt w T S cap l) {i j : Nat} (hi : i < l.length) (hj : j < l.length) :
    Calls Tryz.prog 311 #[.slice (some ⟨S, 0, none⟩) l.length cap, .int .i64 (i : Int), .int .i64 (j : Int)] w fun e w' => e = .returned (.tuple #[]) ∧ HAt w' T S cap (swapP l i j) ∧ TurnsB T S w w' :=
  (things_swap_at _ _ _ _ _ hi hj (h.cell0 hi) (h.cell1 hi) (h.cell0 hj) (h.cell1 hj) h.frozen).mono fun _ _ ⟨a, b⟩ => ⟨a, b ▸ h.swap hi hj⟩
theorem wrapNil_some (ts : Array TypeId) (t : TypeId) (a : Addr) (x y : String) : Builtin.ssaWrapNilChk_ ts t #[.pointer (some a), strVal x, strVal y] = pure (.pointer (some a)) := rfl
set_option maxRecDepth 100000 in
theorem run_meth (name : String) (f : Nat) (hm : (Tryz.prog.info? 279).map (fun ti => (ti.methods.find? (·.name == name)).map fun m => (m.path, m.func)) = some (some (#[], some (f, false)))) (h : HAt w T S cap l) :
    Sem.run Tryz.prog (method (Tryz.prog.types.size + 100) 279 (.pointer (some ⟨T, 0, none⟩)) name) w = .ok (f, .slice (some ⟨S, 0, none⟩) l.length cap) w := by
  have hc := h.boxCell
  rw [Option.map_eq_some_iff] at hm
  obtain ⟨ti, hti, hm⟩ := hm
  rw [Option.map_eq_some_iff] at hm
  obtain ⟨m, hm1, hm2⟩ := hm
  injection hm2 with hp hf
  have hti2 := run_typeInfo (P := Tryz.prog) w hti
  have hu : Tryz.prog.underlying 279 = some (.pointer 281) := by kernel_rfl
  have hag : (isAgg 281).run Tryz.prog w = .ok false w := by kernel_rfl
  show Sem.run Tryz.prog (method ((Tryz.prog.types.size + 99) + 1) _ _ _) w = _
  unfold method
  simp [hti2, hm1, hp, hf, follow, receiverAt, run_underlying hu, Place.get, wrapNil_some, loadVar, hag, hc, go_sem]
set_option maxRecDepth 100000 in
theorem run_methP (name : String) (f T : Nat) (w : World) (hm : (Tryz.prog.info? 279).map (fun ti => (ti.methods.find? (·.name == name)).map fun m => (m.path, m.func)) = some (some (#[], some (f, true)))) :
    Sem.run Tryz.prog (method (Tryz.prog.types.size + 100) 279 (.pointer (some ⟨T, 0, none⟩)) name) w = .ok (f, .pointer (some ⟨T, 0, none⟩)) w := by
  rw [Option.map_eq_some_iff] at hm
  obtain ⟨ti, hti, hm⟩ := hm
  rw [Option.map_eq_some_iff] at hm
  obtain ⟨m, hm1, hm2⟩ := hm
  injection hm2 with hp hf
  have hti2 := run_typeInfo (P := Tryz.prog) w hti
  have hu : Tryz.prog.underlying 279 = some (.pointer 281) := by kernel_rfl
  show Sem.run Tryz.prog (method ((Tryz.prog.types.size + 99) + 1) _ _ _) w = _
  unfold method
  simp [hti2, hm1, hp, hf, follow, receiverAt, run_underlying hu, Place.get, go_sem]
theorem meth_less (h : HAt w T S cap l) : Sem.run Tryz.prog (method (Tryz.prog.types.size + 100) 279 (.pointer (some ⟨T, 0, none⟩)) "Less") w = .ok (308, .slice (some ⟨S, 0, none⟩) l.length cap) w := run_meth "Less" _ (by kernel_rfl) h
theorem meth_len (h : HAt w T S cap l) : Sem.run Tryz.prog (method (Tryz.prog.types.size + 100) 279 (.pointer (some ⟨T, 0, none⟩)) "Len") w = .ok (233, .slice (some ⟨S, 0, none⟩) l.length cap) w := run_meth "Len" _ (by kernel_rfl) h
theorem meth_swap (h : HAt w T S cap l) : Sem.run Tryz.prog (method (Tryz.prog.types.size + 100) 279 (.pointer (some ⟨T, 0, none⟩)) "Swap") w = .ok (311, .slice (some ⟨S, 0, none⟩) l.length cap) w := run_meth "Swap" _ (by kernel_rfl) h
theorem meth_push (T : Nat) (w : World) : Sem.run Tryz.prog (method (Tryz.prog.types.size + 100) 279 (.pointer (some ⟨T, 0, none⟩)) "Push") w = .ok (310, .pointer (some ⟨T, 0, none⟩)) w := run_methP "Push" _ T w (by kernel_rfl)
theorem meth_pop (T : Nat) (w : World) : Sem.run Tryz.prog (method (Tryz.prog.types.size + 100) 279 (.pointer (some ⟨T, 0, none⟩)) "Pop") w = .ok (309, .pointer (some ⟨T, 0, none⟩)) w := run_methP "Pop" _ T w (by kernel_rfl)
end
end Go.Proofs.YtflcmmeoppdhdaaGreat
namespace Go.Proofs.YtflcmmeoppdhdaaGreat
open Go.RowKit Go.Sort Go.Shelf

/-- Kraft's sum of lens, whatever numbers they are. -/
def kraftI (l : List Int) : Nat := kraftL (l.map Int.toNat)
theorem kraftI_take (l : List Int) {k : Nat} (h : k < l.length) : kraftI (l.take (k + 1)) = kraftI (l.take k) + if 1 ≤ (l[k]).toNat ∧ (l[k]).toNat ≤ 15 then 2 ^ (15 - (l[k]).toNat) else 0 := by
  unfold kraftI kraftL
  rw [List.take_add_one, List.getElem?_eq_getElem h, List.map_append, List.map_append, List.sum_append]
  congr 1
theorem kraftI_small (l : List Int) : kraftI l ≤ 16384 * l.length := by
  unfold kraftI kraftL
  induction l with
  | nil => simp
  | cons x l ih =>
    simp only [List.map_cons, List.sum_cons, List.length_cons]
    have : (if 1 ≤ x.toNat ∧ x.toNat ≤ 15 then 2 ^ (15 - x.toNat) else 0) ≤ 16384 := by
      split
      · have h := Nat.pow_le_pow_right (n := 2) (by decide) (show 15 - x.toNat ≤ 14 by omega)
        exact h
      · decide
    omega
section
variable {w : World} {A : Option Addr} {n m : Nat} {l : List Int}
end
end Go.Proofs.YtflcmmeoppdhdaaGreat
