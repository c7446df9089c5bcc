/-
  A range over a function that keeps its place in a box of its own, and whose rounds all go on: the iterator turns that box between two rounds; a round keeps the blocks that the iterator names. · A range over a function that turns nothing itself, and whose rounds all go on: a round keeps the blocks that the iterator names. Out of RangeState's text. · Layer 18: the program's encoder: turned; slices.Backward of bytes. · A region that draws its order, with calls that turn the world one behind the other (RegionSeq), within a round of a range over a function. General: no code of the project. · Contracts of layer 15: give, Make, Of, Letter, Bits.
-/
import Derived.Test.YtflcmmeoppdhdaaGreatR07
import Derived.Test.YtflcmmeoppdhdaaGreatR22
import Derived.Test.YtflcmmeoppdhdaaGreatR23
import Derived.RangeFuncNested
import Derived.RangeFuncBox
import Derived.Below
import Derived.Deep.Draws
import Derived.BigRegionIn
import Derived.RangeFuncLeaves
import Derived.Shelf.Abstract
import Derived.OwnWalkIn
import Derived.TacticsInMore
import Derived.LoopNIn
import Derived.LoopIn
import Derived.Maps.AppendAt
import Derived.OrdersIn
import Derived.RangeFuncCalls
namespace Go.Proofs.YtflcmmeoppdhdaaGreat
open Go.RowKit

section
variable {α : Type} {P : Program}

/-- What of the blocks named by `keep` a round leaves: all. -/
def KeepsB (keep : Nat → Prop) (W W' : World) : Prop := W.heap.size ≤ W'.heap.size ∧ ∀ k, keep k → W'.heap[k]? = W.heap[k]?
theorem KeepsB.trans {keep : Nat → Prop} {A B C : World} (h : KeepsB keep A B) (k : KeepsB keep B C) : KeepsB keep A C := ⟨Nat.le_trans h.1 k.1, fun i hi => (k.2 i hi).trans (h.2 i hi)⟩

/-- The iterator: function g with what it has captured hands on the elements xs, in order; of all that lies it turns the box Bp alone. -/
def HandsOn (n : Nat) (P : Program) (g : Nat) (lb : Array Value) (Bp : Nat) (keep : Nat → Prop) (encs : α → Array Value) (xs : List α) (w : World) : Prop :=
  ∀ (l : Nat) (J : List α → World → Prop) (W : World), KeepsB keep w W → (∀ s A v, J s A → J s (A.setCell ⟨Bp, 0, none⟩ v)) → (∀ s A k, J s A → J s (A.drewN k)) →
    (∀ pre x rest W1, pre ++ x :: rest = xs → J pre W1 → YieldAt Fence.wide (n - 1) P l (encs x) W1 fun e W' => e = .returned (.bool true) ∧ J (pre ++ [x]) W' ∧ KeepsB keep W1 W') →
    J [] W → CallsIn Fence.wide n P g (#[.func (.yield l) #[] #[]] ++ lb) W fun e W' => (∃ v, e = .returned v) ∧ J xs W'

/-- How a round is left: it goes on. -/
def goesOn (B : Nat) (keep : Nat → Prop) (I : World → Prop) (W : World) : Exit → Act → World → Prop
  | .normal, _, W' => KeepsFrom B W W' ∧ KeepsB keep W W' ∧ I W'
  | _, _, _ => False

theorem setCell_other_obj {A : World} {b k : Nat} {v : Value} (h : k ≠ b) : (A.setCell ⟨b, 0, none⟩ v).heap[k]? = A.heap[k]? := Below.heap_setCell _ _ _ k h

/-- THE LAW. -/
theorem wpIn_range_state {n : Nat} {g : Operand} {ps : Array Tmp} {assign body : Code} {Q : Exit → Act → World → Prop} {a : Act} {w : World}
    (h1 : 1 ≤ n) {gf : Nat} {lb : Array Value} (hg : a.eval g = .func (.func gf) #[] lb) (eg : ∀ args w, (callFunc gf args).run P w = .ok (.enter gf args) w)
    {Bp : Nat} {keep : Nat → Prop} {encs : α → Array Value} {xs : List α} (hseq : HandsOn (n - 1) P gf lb Bp keep encs xs w) (hlt : ∀ k, keep k → k < w.heap.size) (hBp : Bp < w.heap.size) (hps : ∀ x, (encs x).size = ps.size)
    (I : List α → World → Prop)
    (hI : ∀ s A B row, I s A → A.grownBy B row → (∀ r, row = some r → r = Bp ∨ (w.heap.size ≤ r ∧ ∃ o : Obj, A.heap[r]? = some o ∧ o.isCells = false)) → I s B) (hId : ∀ s A k, I s A → I s (A.drewN k)) (h0 : I [] w) (a₁ : α → Act)
    (hassign : ∀ (l : Nat) (x : α) (W : World) (K : Act → World → Prop), K (a₁ x) W →
      assign.wpIn (Fence.wide.inRound l) (n - 1 - 1) P (Exit.then K (fun _ _ _ => False)) { tmps := (ps.zip (encs x)).foldl (fun t (p, v) => t.setIfInBounds p v) a.tmps, defers := [] } W)
    (hbody : ∀ (l : Nat) (pre : List α) (x : α) (rest : List α) (W : World), pre ++ x :: rest = xs → I pre W → w.heap.size ≤ W.heap.size → (∀ k, keep k → W.heap[k]? = w.heap[k]? ∨ k = Bp) →
      body.wpIn (Fence.wide.inRound l) (n - 1 - 1) P (goesOn w.heap.size keep (I (pre ++ [x])) W) (a₁ x) W)
    (hdone : ∀ (D : Nat) (W : World), w.heap.size ≤ D → I xs W → W.heap[D]? = some (.deferred (some [])) → Q .normal { a with defers := { target := .collected D, args := #[] } :: a.defers } W) :
    (Code.rangeFunc g ps assign body).wpIn Fence.wide n P Q a w := by
  refine wpIn_rangeFunc ?_
  intro fn hfn
  obtain ⟨rec, hrec⟩ : ∃ rec : LoopState → Loop, rec = fun st => { state := st, pending := none, fn, tmps := a.tmps, params := ps, assign, body, defers := w.heap.size } := ⟨_, rfl⟩
  obtain ⟨W1, hW1⟩ : ∃ W1, (w.alloc (.deferred (some []))).alloc (.loop (rec .ready)) = W1 := ⟨_, rfl⟩
  have hsz : W1.heap.size = w.heap.size + 2 := by rw [← hW1]; simp
  have hrow : W1.heap[w.heap.size + 1]? = some (.loop (rec .ready)) := by
    rw [← hW1]; have := World.alloc_heap_new (w.alloc (.deferred (some []))) (.loop (rec .ready)); rwa [World.size_alloc] at this
  have hdef : W1.heap[w.heap.size]? = some (.deferred (some [])) := by
    rw [← hW1]; exact (Below.heap_alloc _ _ _ (by simp)).trans (World.alloc_heap_new w _)
  have hold : ∀ k, k < w.heap.size → W1.heap[k]? = w.heap[k]? := fun k hk => by
    rw [← hW1, Below.heap_alloc _ _ _ (by simp; omega), Below.heap_alloc _ _ _ hk]
  have hI1 : I [] W1 := by
    rw [← hW1]
    exact hI _ _ _ none (hI _ _ _ none h0 (World.grownBy_alloc _ _ none) (fun r e => by cases e)) (World.grownBy_alloc _ _ none) (fun r e => by cases e)
  have hput : ∀ s (A : World) (o o' : Obj), I s A → A.heap[w.heap.size + 1]? = some o → o.isCells = false → I s (A.putObj (w.heap.size + 1) o') := fun s A o o' hs ho hc =>
    hI s A _ (some (w.heap.size + 1)) hs (grownBy_putObj' A _ o') (fun r e => by cases e; exact .inr ⟨by omega, o, ho, hc⟩)
  have kput : ∀ (A : World) (o' : Obj), KeepsB keep A (A.putObj (w.heap.size + 1) o') := fun A o' =>
    ⟨by simp, fun k hk => World.putObj_heap_other (by have := hlt k hk; omega)⟩
  refine ⟨w.heap.size + 1, [{ target := .collected w.heap.size, args := #[] }], W1, { target := .fn (.func gf) lb, args := #[.func (.yield (w.heap.size + 1)) #[] #[]] }, W1, gf,
    #[.func (.yield (w.heap.size + 1)) #[] #[]] ++ lb, W1, ?_, ?_, fun _ _ => trivial, ?_, fun _ => h1, ?_⟩
  · rw [← hW1, hrec]; exact run_enterLoop_outer _ _ _ _ _
  · simp only [resolve, hg]
    simp [go_sem]
  · simp [invoke, go_sem, eg]
  · refine (hseq (w.heap.size + 1)
      (fun pre W => I pre W ∧ W.heap[w.heap.size + 1]? = some (.loop (rec .ready)) ∧ W.heap[w.heap.size]? = some (.deferred (some [])) ∧ w.heap.size ≤ W.heap.size ∧ (∀ k, keep k → W.heap[k]? = w.heap[k]? ∨ k = Bp))
      W1 ⟨by omega, fun k hk => hold k (hlt k hk)⟩ ?_ (fun s A k h => ⟨hId s A k h.1, h.2⟩) ?_ ⟨hI1, hrow, hdef, by omega, fun k hk => .inl (hold k (hlt k hk))⟩).mono ?_
    · rintro s A v ⟨x1, x2, x3, x4, x5⟩
      refine ⟨hI s A _ (some Bp) x1 (grownBy_setCell' A Bp v) (fun r e => by cases e; exact .inl rfl), (setCell_other_obj (by omega)).trans x2, (setCell_other_obj (by omega)).trans x3, Nat.le_trans x4 (grownBy_setCell' A Bp v).size, fun k hk => ?_⟩
      by_cases e : k = Bp
      · exact .inr e
      · rcases x5 k hk with h | h
        · exact .inl ((setCell_other_obj e).trans h)
        · exact .inr h
    · rintro pre x rest W hxs ⟨x1, x2, x3, x4, x5⟩
      have hlt2 : w.heap.size + 1 < W.heap.size := (Array.getElem?_eq_some_iff.1 x2).1
      have hy := run_yield (P := P) (args := encs x) x2 (by rw [hrec]; exact hps x)
      rw [hrec] at hy
      refine ⟨fn, _, assign, body, hy, roundIn_of_wpIn hfn (hassign _ x W _ ⟨_, run_beginRound x2 (by rw [hrec]), ?_⟩)⟩
      obtain ⟨W2, hW2⟩ : ∃ W2, W.putObj (w.heap.size + 1) (.loop { rec .ready with state := .busy }) = W2 := ⟨_, rfl⟩
      have y2 : W2.heap[w.heap.size + 1]? = some (.loop { rec .ready with state := .busy }) := by rw [← hW2]; exact World.putObj_heap_same hlt2
      have y3 : W2.heap[w.heap.size]? = some (.deferred (some [])) := by rw [← hW2]; exact (World.putObj_heap_other (by omega)).trans x3
      have y1 : I pre W2 := by rw [← hW2]; exact hput _ _ _ _ x1 x2 rfl
      have y4 : w.heap.size ≤ W2.heap.size := by rw [← hW2]; simpa using x4
      have yk : KeepsB keep W W2 := by rw [← hW2]; exact kput _ _
      have y5 : ∀ k, keep k → W2.heap[k]? = w.heap[k]? ∨ k = Bp := fun k hk => (x5 k hk).imp_left fun h => (yk.2 k hk).trans h
      rw [hW2]
      refine wpIn_mono (hbody _ pre x rest W2 hxs y1 y4 y5) ?_
      rintro e a3 W3 hp
      cases e with
      | normal =>
        obtain ⟨hk3, hkp3, hi3⟩ := hp
        have z2 := hk3.same _ _ (by omega) y2 rfl
        have z3 := hk3.same _ _ (Nat.le_refl _) y3 rfl
        have hend := run_endRound (P := P) none z2
        rw [hrec] at hend z2
        refine ⟨_, _, hend, rfl, ⟨hput _ _ _ _ hi3 z2 rfl, ?_, (World.putObj_heap_other (by omega)).trans z3, ?_, fun k hk => ?_⟩, yk.trans (hkp3.trans (kput _ _))⟩
        · rw [hrec]; exact World.putObj_heap_same (Array.getElem?_eq_some_iff.1 z2).1
        · have := hk3.size; simp; omega
        · exact (y5 k hk).imp_left fun h => ((kput _ _).2 k hk).trans ((hkp3.2 k hk).trans h)
      | ret => exact hp.elim
      | exit id => exact hp.elim
      | goto t => exact hp.elim
      | panic ch => exact hp.elim
      | outgrown => exact hp.elim
    · rintro e W2 ⟨⟨v, rfl⟩, x1, x2, x3, x4, -⟩
      have hend := run_endLoop (P := P) x2 (by rw [hrec]; simp)
      rw [hrec] at hend
      exact ⟨none, _, hend, hdone _ _ (Nat.le_refl _) (hput _ _ _ _ x1 x2 rfl) ((World.putObj_heap_other (by omega)).trans x3)⟩
end
end Go.Proofs.YtflcmmeoppdhdaaGreat
namespace Go.Proofs.YtflcmmeoppdhdaaGreat
open Go.RowKit

section
variable {α : Type} {P : Program}

/-- The iterator: function g with what it has captured hands on the elements xs, in order; it turns nothing. -/
def HandsStill (n : Nat) (P : Program) (g : Nat) (lb : Array Value) (keep : Nat → Prop) (encs : α → Array Value) (xs : List α) (w : World) : Prop :=
  ∀ (l : Nat) (J : List α → World → Prop) (W : World), KeepsB keep w W →
    (∀ pre x rest W1, pre ++ x :: rest = xs → J pre W1 → YieldAt Fence.wide (n - 1) P l (encs x) W1 fun e W' => e = .returned (.bool true) ∧ J (pre ++ [x]) W' ∧ KeepsB keep W1 W') →
    J [] W → CallsIn Fence.wide n P g (#[.func (.yield l) #[] #[]] ++ lb) W fun e W' => (∃ v, e = .returned v) ∧ J xs W'

/-- THE LAW. -/
theorem wpIn_range_still {n : Nat} {g : Operand} {ps : Array Tmp} {assign body : Code} {Q : Exit → Act → World → Prop} {a : Act} {w : World}
    (h1 : 1 ≤ n) {gf : Nat} {lb : Array Value} (hg : a.eval g = .func (.func gf) #[] lb) (eg : ∀ args w, (callFunc gf args).run P w = .ok (.enter gf args) w)
    {keep : Nat → Prop} {encs : α → Array Value} {xs : List α} (hseq : HandsStill (n - 1) P gf lb keep encs xs w) (hlt : ∀ k, keep k → k < w.heap.size) (hps : ∀ x, (encs x).size = ps.size)
    (I : List α → World → Prop)
    (hI : ∀ s A B row, I s A → A.grownBy B row → (∀ r, row = some r → w.heap.size ≤ r ∧ ∃ o : Obj, A.heap[r]? = some o ∧ o.isCells = false) → I s B) (h0 : I [] w) (a₁ : α → Act)
    (hassign : ∀ (l : Nat) (x : α) (W : World) (K : Act → World → Prop), K (a₁ x) W →
      assign.wpIn (Fence.wide.inRound l) (n - 1 - 1) P (Exit.then K (fun _ _ _ => False)) { tmps := (ps.zip (encs x)).foldl (fun t (p, v) => t.setIfInBounds p v) a.tmps, defers := [] } W)
    (hbody : ∀ (l : Nat) (pre : List α) (x : α) (rest : List α) (W : World), pre ++ x :: rest = xs → I pre W → w.heap.size ≤ W.heap.size → (∀ k, keep k → W.heap[k]? = w.heap[k]?) →
      body.wpIn (Fence.wide.inRound l) (n - 1 - 1) P (goesOn w.heap.size keep (I (pre ++ [x])) W) (a₁ x) W)
    (hdone : ∀ (D : Nat) (W : World), w.heap.size ≤ D → I xs W → W.heap[D]? = some (.deferred (some [])) → Q .normal { a with defers := { target := .collected D, args := #[] } :: a.defers } W) :
    (Code.rangeFunc g ps assign body).wpIn Fence.wide n P Q a w := by
  refine wpIn_rangeFunc ?_
  intro fn hfn
  obtain ⟨rec, hrec⟩ : ∃ rec : LoopState → Loop, rec = fun st => { state := st, pending := none, fn, tmps := a.tmps, params := ps, assign, body, defers := w.heap.size } := ⟨_, rfl⟩
  obtain ⟨W1, hW1⟩ : ∃ W1, (w.alloc (.deferred (some []))).alloc (.loop (rec .ready)) = W1 := ⟨_, rfl⟩
  have hsz : W1.heap.size = w.heap.size + 2 := by rw [← hW1]; simp
  have hrow : W1.heap[w.heap.size + 1]? = some (.loop (rec .ready)) := by
    rw [← hW1]; have := World.alloc_heap_new (w.alloc (.deferred (some []))) (.loop (rec .ready)); rwa [World.size_alloc] at this
  have hdef : W1.heap[w.heap.size]? = some (.deferred (some [])) := by
    rw [← hW1]; exact (Below.heap_alloc _ _ _ (by simp)).trans (World.alloc_heap_new w _)
  have hold : ∀ k, k < w.heap.size → W1.heap[k]? = w.heap[k]? := fun k hk => by
    rw [← hW1, Below.heap_alloc _ _ _ (by simp; omega), Below.heap_alloc _ _ _ hk]
  have hI1 : I [] W1 := by
    rw [← hW1]
    exact hI _ _ _ none (hI _ _ _ none h0 (World.grownBy_alloc _ _ none) (fun r e => by cases e)) (World.grownBy_alloc _ _ none) (fun r e => by cases e)
  have hput : ∀ s (A : World) (o o' : Obj), I s A → A.heap[w.heap.size + 1]? = some o → o.isCells = false → I s (A.putObj (w.heap.size + 1) o') := fun s A o o' hs ho hc =>
    hI s A _ (some (w.heap.size + 1)) hs (grownBy_putObj' A _ o') (fun r e => by cases e; exact ⟨by omega, o, ho, hc⟩)
  have kput : ∀ (A : World) (o' : Obj), KeepsB keep A (A.putObj (w.heap.size + 1) o') := fun A o' =>
    ⟨by simp, fun k hk => World.putObj_heap_other (by have := hlt k hk; omega)⟩
  refine ⟨w.heap.size + 1, [{ target := .collected w.heap.size, args := #[] }], W1, { target := .fn (.func gf) lb, args := #[.func (.yield (w.heap.size + 1)) #[] #[]] }, W1, gf,
    #[.func (.yield (w.heap.size + 1)) #[] #[]] ++ lb, W1, ?_, ?_, fun _ _ => trivial, ?_, fun _ => h1, ?_⟩
  · rw [← hW1, hrec]; exact run_enterLoop_outer _ _ _ _ _
  · simp only [resolve, hg]
    simp [go_sem]
  · simp [invoke, go_sem, eg]
  · refine (hseq (w.heap.size + 1)
      (fun pre W => I pre W ∧ W.heap[w.heap.size + 1]? = some (.loop (rec .ready)) ∧ W.heap[w.heap.size]? = some (.deferred (some [])) ∧ w.heap.size ≤ W.heap.size ∧ (∀ k, keep k → W.heap[k]? = w.heap[k]?))
      W1 ⟨by omega, fun k hk => hold k (hlt k hk)⟩ ?_ ⟨hI1, hrow, hdef, by omega, fun k hk => hold k (hlt k hk)⟩).mono ?_
    · rintro pre x rest W hxs ⟨x1, x2, x3, x4, x5⟩
      have hlt2 : w.heap.size + 1 < W.heap.size := (Array.getElem?_eq_some_iff.1 x2).1
      have hy := run_yield (P := P) (args := encs x) x2 (by rw [hrec]; exact hps x)
      rw [hrec] at hy
      refine ⟨fn, _, assign, body, hy, roundIn_of_wpIn hfn (hassign _ x W _ ⟨_, run_beginRound x2 (by rw [hrec]), ?_⟩)⟩
      obtain ⟨W2, hW2⟩ : ∃ W2, W.putObj (w.heap.size + 1) (.loop { rec .ready with state := .busy }) = W2 := ⟨_, rfl⟩
      have y2 : W2.heap[w.heap.size + 1]? = some (.loop { rec .ready with state := .busy }) := by rw [← hW2]; exact World.putObj_heap_same hlt2
      have y3 : W2.heap[w.heap.size]? = some (.deferred (some [])) := by rw [← hW2]; exact (World.putObj_heap_other (by omega)).trans x3
      have y1 : I pre W2 := by rw [← hW2]; exact hput _ _ _ _ x1 x2 rfl
      have y4 : w.heap.size ≤ W2.heap.size := by rw [← hW2]; simpa using x4
      have yk : KeepsB keep W W2 := by rw [← hW2]; exact kput _ _
      have y5 : ∀ k, keep k → W2.heap[k]? = w.heap[k]? := fun k hk => (yk.2 k hk).trans (x5 k hk)
      rw [hW2]
      refine wpIn_mono (hbody _ pre x rest W2 hxs y1 y4 y5) ?_
      rintro e a3 W3 hp
      cases e with
      | normal =>
        obtain ⟨hk3, hkp3, hi3⟩ := hp
        have z2 := hk3.same _ _ (by omega) y2 rfl
        have z3 := hk3.same _ _ (Nat.le_refl _) y3 rfl
        have hend := run_endRound (P := P) none z2
        rw [hrec] at hend z2
        refine ⟨_, _, hend, rfl, ⟨hput _ _ _ _ hi3 z2 rfl, ?_, (World.putObj_heap_other (by omega)).trans z3, ?_, fun k hk => ?_⟩, yk.trans (hkp3.trans (kput _ _))⟩
        · rw [hrec]; exact World.putObj_heap_same (Array.getElem?_eq_some_iff.1 z2).1
        · have := hk3.size; simp; omega
        · exact ((kput _ _).2 k hk).trans ((hkp3.2 k hk).trans (y5 k hk))
      | ret => exact hp.elim
      | exit id => exact hp.elim
      | goto t => exact hp.elim
      | panic ch => exact hp.elim
      | outgrown => exact hp.elim
    · rintro e W2 ⟨⟨v, rfl⟩, x1, x2, x3, x4, -⟩
      have hend := run_endLoop (P := P) x2 (by rw [hrec]; simp)
      rw [hrec] at hend
      exact ⟨none, _, hend, hdone _ _ (Nat.le_refl _) (hput _ _ _ _ x1 x2 rfl) ((World.putObj_heap_other (by omega)).trans x3)⟩
end
end Go.Proofs.YtflcmmeoppdhdaaGreat
namespace Go.Proofs.YtflcmmeoppdhdaaGreat
open Go.RowKit Go.Sort

/-- The lowest bytes of a number, the lowest first. -/
def lows : Nat → Nat → List Nat
  | 0, _ => []
  | k + 1, x => x % 256 :: lows k (x / 256)
theorem lows_be4 {x : Nat} (hx : x < 4294967296) : (lows 4 x).reverse = be4 x := by
  simp only [lows, be4, List.reverse_cons, List.reverse_nil, List.nil_append, List.cons_append, List.cons.injEq, and_true]
  omega
theorem u8s_reverse (l : List Nat) : (u8s l).reverse = u8s l.reverse := by simp [u8s]
/-- What holds at the head of a round of turned. -/
def TuRel (w : World) (E x : Nat) (O : List UInt8) (i : Value) (wr : World) : Prop :=
  ∃ (j xj : Nat) (o1 : List Nat), j ≤ 4 ∧ i = .int .i64 (j : Int) ∧ o1.length = j ∧ o1 ++ lows (4 - j) xj = lows 4 x ∧ EncS wr E xj (O ++ u8s o1) ∧ OnlyT E encRT w wr
set_option maxHeartbeats 2000000 in
set_option maxRecDepth 100000 in
theorem ransTurned_any {w : World} {E x : Nat} {O : List UInt8} (h : EncS w E x O) (hx : x < 2147483648) (ho : O.length ≤ 90000) :
    Calls Tryz.prog 83 #[.pointer (some ⟨E, 0, none⟩)] w fun e w' => ∃ v, e = .returned v ∧ w'.ownsRow (E + 1) 5 1 v (4 + O.length) (bvs (u8s (be4 x) ++ O.reverse)) ∧ OnlyT E encRT w w' := by
  have HREL := Lib.hid (show TuRel w E x O (.int .i64 ((0 : Nat) : Int)) w from ⟨0, x, [], Nat.zero_le _, rfl, rfl, rfl, by rw [show u8s [] = [] from rfl, List.append_nil]; exact h, OnlyT.refl _ _ _⟩)
  have HO := Lib.hid ho
  have HX := Lib.hid hx
  clear h ho hx
  go_enter Tryz.func83, Tryz.ntmps83
  go_wp2
  go_loopw [3] (TuRel w E x O) (fun i _ => 4 - (intOf i).toNat)
  case atStart => exact HREL.out
  case round =>
    clear HREL
    obtain ⟨j, xj, o1, hj, rfl, hol, hoo, he, hot⟩ := hrel
    by_cases hlt : j < 4
    · have C := Lib.hid (ransGive_any he (by rw [List.length_append, u8s_length]; have := HO.out; omega))
      have HOT := Lib.hid hot
      have HH := Lib.hid (And.intro hol (show o1 ++ [xj % 256] ++ lows (4 - (j + 1)) (xj / 256) = lows 4 x by
        rw [← hoo, show 4 - j = (4 - (j + 1)) + 1 by omega, lows, List.append_assoc]; rfl))
      have hji : (j : Int) < 4 := by omega
      clear hol hoo he hot
      go_wp2_with fail
      refine C.out.mono ?_
      rintro _ w5 ⟨rfl, he5, ho5⟩
      have HE5 := Lib.hid he5
      have HO5 := Lib.hid (HOT.out.trans ho5)
      clear he5 ho5 C HOT
      go_wp2
      go_roundw
      case rel => exact ⟨j + 1, xj / 256, o1 ++ [xj % 256], by omega, by go_num, by rw [List.length_append, List.length_singleton, HH.out.1], HH.out.2, by rw [u8s_snoc, ← List.append_assoc]; exact HE5.out, HO5.out⟩
      case measure => simp [intOf]; omega
    · obtain rfl : j = 4 := by omega
      rw [Nat.sub_self, lows, List.append_nil] at hoo
      subst hoo
      obtain ⟨v, hb, hown⟩ := he
      obtain ⟨A1, c1, rfl, -, -, -⟩ := own_form hown
      obtain ⟨M, hM⟩ : ∃ M, M = O ++ u8s (lows 4 x) := ⟨_, rfl⟩
      have hMr : M.reverse = u8s (be4 x) ++ O.reverse := by rw [hM, List.reverse_append, u8s_reverse, lows_be4 (by have := HX.out; omega)]
      have hMl : M.length = 4 + O.length := by rw [hM, List.length_append, u8s_length]; simp [lows]; omega
      rw [← hM] at hb hown
      have C := Lib.hid (rev_own hown (by have := HO.out; omega) (fun e => by rw [e] at hMl; simp at hMl; omega))
      rw [hMr, hMl] at C
      rw [hMl] at hb
      have hc1 := hb.cell 1
      simp only [List.getElem?_cons_zero, List.getElem?_cons_succ] at hc1
      have HB := Lib.hid hb
      have HOT := Lib.hid hot
      have hgl := hb.lt
      clear hb hown hot hM hMr hMl hol hlt hj
      go_wp2_with fail
      refine C.out.mono ?_
      rintro _ w5 ⟨rfl, hown5, hb5, ho5⟩
      have hbl5 := HB.out.only ho5 (by decide)
      have hd1 := hbl5.cell 1
      simp only [List.getElem?_cons_zero, List.getElem?_cons_succ] at hd1
      have HE := Lib.hid (And.intro hown5 (HOT.out.trans ((ho5.more (ts' := encRT) (by simp [encRT])).base (Nat.le_succ E))))
      have hgl5 : E < w5.heap.size := hbl5.lt
      clear hown5 hb5 ho5 hbl5 C HB HOT hc1
      go_wp2
      go_ret
      exact ⟨_, rfl, HE.out.1, HE.out.2⟩
/-- A place, and the byte there. -/
def encNB (x : Nat × UInt8) : Array Value := #[.int .i64 (x.1 : Int), .int .u8 (x.2.toNat : Int)]
/-- The bytes, the last one first, with their places. -/
def backL (l : List UInt8) : List (Nat × UInt8) := (List.range l.length).map fun k => (l.length - 1 - k, l.getD (l.length - 1 - k) 0)
theorem backL_len (l : List UInt8) : (backL l).length = l.length := by simp [backL]
theorem backL_get (l : List UInt8) (k : Nat) (h : k < l.length) : (backL l)[k]? = some (l.length - 1 - k, l[l.length - 1 - k]'(by omega)) := by
  simp [backL, h, List.getD_eq_getElem?_getD, show l.length - 1 - k < l.length by omega]
def keepN (Bs n₀ : Nat) (k : Nat) : Prop := k = Bs ∨ k < n₀
set_option maxRecDepth 100000 in
set_option maxHeartbeats 2000000 in
theorem backward_hands (n : Nat) (hn : 1 ≤ n) (Bs n₀ : Nat) (A : Option Addr) (c : Nat) (l : List UInt8) (hl : l.length ≤ 1000000) (w : World) (hB : Boxed w Bs 22 (.slice A l.length c)) (hr : Rd w n₀ A (bvs l)) :
    HandsStill n Tryz.prog 125 #[.pointer (some ⟨Bs, 0, none⟩)] (keepN Bs n₀) encNB (backL l) w := by
  intro lq J W hW hY h0
  have hc0 := (show Boxed W Bs 22 (.slice A l.length c) from (hW.2 Bs (.inl rfl)).trans hB).cell
  have HB := Lib.hid hB
  have HR := Lib.hid hr
  clear hB hr
  refine callsIn_of_wp Tryz.func125 rfl trivial ?_ rfl
  simp only [Tryz.ntmps125, List.size_toArray, List.length_cons, List.length_nil, Nat.reduceAdd, Nat.reduceSub, Array.replicate_succ, Array.replicate_zero, List.push_toArray, List.append_toArray, List.nil_append, List.cons_append]
  gi_wp2
  clear hc0
  gi_loopw [3] (fun i wr => ∃ (k : Nat) (z : Int), k ≤ l.length ∧ z = (l.length : Int) - 1 - (k : Int) ∧ i = .int .i64 z ∧ J ((backL l).take k) wr ∧ KeepsB (keepN Bs n₀) w wr) (fun i _ => (intOf i + 1).toNat)
  case atStart => exact ⟨0, _, Nat.zero_le _, by simp, rfl, h0, hW⟩
  case round =>
    obtain ⟨k, z, hk, hz, rfl, hJs, hkp⟩ := hrel
    by_cases hlt : k < l.length
    · obtain ⟨q, hq⟩ : ∃ q, q = l.length - 1 - k := ⟨_, rfl⟩
      have hzq : z = (q : Int) := by omega
      subst hzq
      have hql : q < l.length := by omega
      obtain ⟨ab, ao, rfl, hab, hcell0⟩ := HR.out q _ (bvs_get l q hql)
      have hcell := (World.cell?_of_block (a := ⟨ab, ao + q, none⟩) (hkp.2 ab (.inr hab))).trans hcell0
      have hmc := (show Boxed wr Bs 22 _ from (hkp.2 Bs (.inl rfl)).trans HB.out).cell
      have hget := backL_get l k hlt
      obtain ⟨hklt, hgetE⟩ := List.getElem?_eq_some_iff.1 hget
      have htake := List.take_append_getElem (l := backL l) (i := k) hklt
      have hsplit : (backL l).take k ++ (backL l)[k] :: (backL l).drop (k + 1) = backL l := by
        rw [← List.drop_eq_getElem_cons hklt, List.take_append_drop]
      obtain ⟨fn, tmps, assign, body, hy, hRR⟩ := hY _ _ _ wr hsplit hJs
      rw [htake] at hRR
      rw [hgetE] at hy
      unfold encNB at hy
      simp only [← hq] at hy
      obtain ⟨b, hb⟩ : ∃ b, b = (l[q]'hql).toNat := ⟨_, rfl⟩
      rw [← hb] at hy hcell
      have hqi : (q : Int) < (l.length : Int) := by omega
      have HKP := Lib.hid hkp
      have HQ := Lib.hid hq
      clear hget hgetE htake hsplit hcell0 hkp hJs hq hb hz hklt
      gi_wp2
      refine hRR.mono ?_
      rintro e W3 ⟨rfl, hJ3, hk3⟩
      gi_wp2
      go_roundw
      case rel => exact ⟨k + 1, _, by omega, by have := HQ.out; omega, rfl, hJ3, HKP.out.trans hk3⟩
      case measure => simp [intOf]
    · obtain rfl : k = l.length := by omega
      have hz1 : z = -1 := by omega
      subst hz1
      rw [List.take_of_length_le (by rw [backL_len]; exact Nat.le_refl _)] at hJs
      clear hz
      gi_wp2
      go_end0
      exact ⟨⟨_, rfl⟩, hJs⟩
theorem backwardB_any (A : Option Addr) (n c : Nat) (w : World) :
    Calls Tryz.prog 80 #[.slice A n c] w fun e w' => e = .returned (.func (.func 125) #[] #[.pointer (some ⟨w.heap.size, 0, none⟩)]) ∧ Below w.heap.size w w' ∧ w'.heap.size = w.heap.size + 1 ∧ Boxed w' w.heap.size 22 (.slice A n c) := by
  go_enter Tryz.func80, Tryz.ntmps80
  go_wp2
  go_ret
  exact ⟨rfl, (Below.refl _ _).alloc (Nat.le_refl _) _, by simp, heap_alloc_new w _⟩
end Go.Proofs.YtflcmmeoppdhdaaGreat
namespace Go.Proofs.YtflcmmeoppdhdaaGreat
open Go.RowKit

section
variable {P : Program} {o : Oper} {a : Act} {w : World} {K : Act → World → Prop} {Q : Exit → Act → World → Prop} {l n : Nat}
theorem oper_round (hd : ∀ c, o.op ≠ .defer c) (h : o.wp P a w K Q) : o.wpIn (Fence.wide.inRound l) n P a w K Q := by
  refine ⟨fun _ _ => trivial, ?_⟩
  rw [Oper.semAt_eq _ _ _ hd]
  unfold Oper.wp at h
  generalize (execOp a.eval o).run P w = r at *
  cases r with
  | ok x w' =>
    cases x with
    | value v => exact h
    | skip => exact h
    | defer d => exact h
    | enter f args => exact ⟨(fun h => by cases h), CallsIn.inRound l (callsIn_wide.2 h)⟩
    | row row args => exact ⟨(fun h => by cases h), fun c cs _ => let ⟨v, w', r, s⟩ := h c cs; ⟨v, w', r, stepsIn_wide.2 s⟩⟩
    | _ => exact h.elim
  | halt x w' => cases x <;> exact h
def noDefer (ops : Array Oper) : Bool := ops.toList.all fun o => match o.op with
  | .defer _ => false
  | _ => true
theorem wpAny_round {md : Region.Mode} {ops : Array Oper} (hd : noDefer ops = true) (hQ : ¬ LetsOut Q) : ∀ (fuel : Nat) (listed : Array Bool) (a : Act) (w : World), wpAny P md ops Q fuel listed a w → wpAnyIn (Fence.wide.inRound l) n P md ops Q fuel listed a w
  | 0, _, _, _, h => h
  | fuel + 1, listed, a, w, h => by
    refine ⟨h.1, fun i hi => ?_⟩
    have h2 := h.2 i hi
    unfold wpOp at h2
    unfold wpOpIn
    cases ho : ops[i]? with
    | none =>
      rw [ho] at h2
      exact wpAny_round hd hQ fuel _ _ _ h2
    | some o =>
      rw [ho] at h2
      have hno : ∀ c, o.op ≠ .defer c := fun c e => by
        have hm : o ∈ ops.toList := Array.mem_def.1 (Array.mem_of_getElem? ho)
        have := List.all_eq_true.1 hd o hm
        rw [e] at this
        cases this
      simp only at h2 ⊢
      by_cases hw : Region.wanted o (yielded ops a.tmps) = true
      · rw [if_pos hw] at h2 ⊢
        rcases h2 with h2 | ⟨-, h2⟩
        · exact Oper.wpIn_mono (fun a' w' h3 => wpAny_round hd hQ fuel _ a' w' h3) (oper_round hno h2)
        · exact absurd h2 hQ
      · rw [if_neg hw] at h2 ⊢
        exact ⟨fun _ _ => trivial, wpAny_round hd hQ fuel _ _ _ h2⟩
end
section
variable {P : Program} {ops : Array Oper} {a0 : Act} {Q : Exit → Act → World → Prop} {l n : Nat}
/-- THE RULE, within a round. -/
theorem wp_region_round {id : Nat} {w0 : World} (hd : noDefer ops = true) (hQ : ¬ LetsOut Q) (rows : List RowS) (r : Nat) (G : Nat → World → Prop) (outs : List (Nat × Value)) (h0 : G 0 w0.drew) (hm : P.follows .mixedOrders = true) (hok : dstsOk ops a0.tmps.size = true) (hac : acyc ops = true) (hrows : rowsSOk ops rows r = true) (hlast : lastCall rows r = true) (hout : outsOk ops outs = true) (houts : OutsSay a0.eval outs)
    (hobl : OblSAll P G rows outs rows ops.toList)
    (hend : ∀ w : World, G r w → Q .normal ⟨layAll ops (fun k => (rowS rows k).val) 0 ops.toList a0.tmps, a0.defers⟩ w) :
    (Code.region id ops true).wpIn (Fence.wide.inRound l) n P Q a0 w0 := by
  refine wpIn_region_any hm (wpAny_round hd hQ _ _ _ _ (wpAny_seq hok hac hrows hlast hout houts hobl hend ops.size _ a0 _ 0 ?_ ?_))
  · simp [unlisted]
  · refine ⟨by simp, rfl, rfl, fun _ _ => rfl, fun k o ho hk => ?_, fun k hk => ?_, fun k hk => ?_, fun k hk hkf => Nat.zero_le _, Nat.zero_le _, h0⟩
    · have g : k < ops.size := (Array.getElem?_eq_some_iff.1 ho).1
      simp [Array.getD_eq_getD_getElem?, g] at hk
    all_goals
      exfalso
      rcases Nat.lt_or_ge k ops.size with g | g
      · simp [Array.getD_eq_getD_getElem?, g] at hk
      · simp [Array.getD_eq_getD_getElem?, Nat.not_lt.2 g] at hk
end
end Go.Proofs.YtflcmmeoppdhdaaGreat
namespace Go.Proofs.YtflcmmeoppdhdaaGreat
open Go.RowKit Go.Sort Go.Shelf

/-- Whose each number is, while letter k has had j of its numbers. -/
def hRow (c : List Int) (k j T : Nat) : List Nat := sRow c k ++ List.replicate j k ++ List.replicate (T - (sRow c k).length - j) 0
theorem hRow_len {c : List Int} {k j T : Nat} (h : (sRow c k).length + j ≤ T) : (hRow c k j T).length = T := by simp [hRow]; omega
theorem hRow_zero (c : List Int) (T : Nat) : hRow c 0 0 T = List.replicate T 0 := by simp [hRow, sRow]
theorem hRow_set {c : List Int} {k j T : Nat} (h : (sRow c k).length + j < T) : (hRow c k j T).set ((sRow c k).length + j) k = hRow c k (j + 1) T := by
  unfold hRow
  have e : T - (sRow c k).length - j = (T - (sRow c k).length - (j + 1)) + 1 := by omega
  have hl : (sRow c k ++ List.replicate j k).length = (sRow c k).length + j := by simp
  rw [List.set_append_right _ _ (by rw [hl]; exact Nat.le_refl _), hl, Nat.sub_self, e, List.replicate_succ, List.set_cons_zero, List.replicate_succ']
  simp
theorem hRow_next (c : List Int) (k T : Nat) : hRow c k (c.getD k 0).toNat T = hRow c (k + 1) 0 T := by
  unfold hRow
  simp only [sRow, List.length_append, List.length_replicate, List.replicate_zero, List.append_nil, Nat.sub_zero]
  congr 2
  omega
theorem hRow_all {c : List Int} {k T : Nat} (h : (sRow c k).length = T) : hRow c k 0 T = sRow c k := by simp [hRow, h]
/-- Where the first k letters begin, and the next one. -/
def fRow2 (c : List Int) (k : Nat) : List Int := (List.range (c.length + 1)).map fun j => if j ≤ k then fPre c j else 0
theorem fRow2_len (c : List Int) (k : Nat) : (fRow2 c k).length = c.length + 1 := by simp [fRow2]
theorem fRow2_zero (c : List Int) : fRow2 c 0 = List.replicate (c.length + 1) 0 := by
  refine List.eq_replicate_iff.2 ⟨fRow2_len c 0, fun x hx => ?_⟩
  obtain ⟨j, -, rfl⟩ := List.mem_map.1 hx
  by_cases h : j ≤ 0
  · rw [if_pos h, show j = 0 by omega, fPre_zero]
  · rw [if_neg h]
theorem fRow2_get (c : List Int) (k j : Nat) (h : j < c.length + 1) : (fRow2 c k)[j]? = some (if j ≤ k then fPre c j else 0) := by
  unfold fRow2
  rw [List.getElem?_map, List.getElem?_range h]
  rfl
theorem fRow2_set (c : List Int) (k : Nat) : (fRow2 c k).set (k + 1) (fPre c (k + 1)) = fRow2 c (k + 1) := by
  refine List.ext_getElem? fun j => ?_
  by_cases hj : j < c.length + 1
  · rw [fRow2_get c (k + 1) j hj]
    by_cases e : k + 1 = j
    · subst e
      rw [List.getElem?_set_self (by rw [fRow2_len]; exact hj), if_pos (Nat.le_refl _)]
    · rw [List.getElem?_set_ne e, fRow2_get c k j hj]
      by_cases h1 : j ≤ k
      · rw [if_pos h1, if_pos (by omega)]
      · rw [if_neg h1, if_neg (by omega)]
  · rw [List.getElem?_eq_none (by rw [List.length_set, fRow2_len]; omega), List.getElem?_eq_none (by rw [fRow2_len]; omega)]

/-- At P lie numbers that are being shared out: letters below k have theirs. -/
structure Shares (w : World) (P F H : Nat) (c : List Int) (k b T : Nat) : Prop where
  pb : Blk w P 179 [.slice (some ⟨F, 0, none⟩) (c.length + 1 : Nat) (c.length + 1), .slice (some ⟨H, 0, none⟩) T T, .int .i64 (b : Int)]
  fb : Blk w F 3 (zvs (fRow2 c k))
  hb : Blk w H 231 (hvs (hRow c k 0 T))
theorem blk_types {w : World} {g g' : Nat} {t t' : TypeId} {cs cs' : List Value} (h : Blk w g t cs) (h' : Blk w g' t' cs') (hne : t ≠ t') : g ≠ g' := fun e => by
  subst e
  exact h.ofType.ne hne h'.ofType
theorem Shares.grow {w w' : World} {P F H : Nat} {c : List Int} {k b T : Nat} (h : Shares w P F H c k b T) (hb : Below w.heap.size w w') : Shares w' P F H c k b T := ⟨h.pb.grow hb, h.fb.grow hb, h.hb.grow hb⟩
section
variable {w : World} {P F H b T : Nat} {c : List Int}
set_option maxRecDepth 100000 in
set_option maxHeartbeats 2000000 in
theorem slotGive_any (k : Nat) (h : Shares w P F H c k b T) (hc : ∀ x ∈ c, 0 ≤ x) (hs : c.sum = (T : Int)) (hT : T ≤ 65536) (hl : c.length ≤ 4096) (hk : k < c.length) :
    Calls Tryz.prog 124 #[.pointer (some ⟨P, 0, none⟩), .int .i64 (k : Int), .int .i64 (c[k]'hk)] w fun e w' => (∃ u, e = .returned u) ∧ Shares w' P F H c (k + 1) b T ∧ TurnsB F H w w' := by
  have hPF := blk_types h.pb h.fb (by decide)
  have hPH := blk_types h.pb h.hb (by decide)
  have hFH := blk_types h.fb h.hb (by decide)
  have hx0 := hc _ (List.getElem_mem hk)
  have hsl := sRow_len hc k (by omega)
  have hsn := fPre_succ c k hk
  have hle := fPre_le hc (k + 1)
  rw [hs] at hle
  have hnx := hRow_next c k T
  rw [show c.getD k 0 = c[k] by simp [List.getD_eq_getElem?_getD, hk]] at hnx
  obtain ⟨x, hx⟩ := Int.eq_ofNat_of_zero_le hx0
  rw [hx] at hsn hnx ⊢
  rw [Int.toNat_natCast] at hnx
  have HSET := Lib.hid (fun (j : Nat) (h : (sRow c k).length + j < T) => hRow_set h)
  have HLEN := Lib.hid (fun (j : Nat) (h : (sRow c k).length + j ≤ T) => hRow_len h)
  obtain ⟨p, hp⟩ : ∃ p, p = (sRow c k).length := ⟨_, rfl⟩
  rw [← hp] at hsl HSET HLEN
  rw [← hsl] at hsn
  have hpx : p + x ≤ T := by omega
  have hfs := fRow2_set c k
  rw [hsn] at hfs
  have HFS := Lib.hid hfs
  have HNX := Lib.hid hnx
  have HSH := Lib.hid h
  have c0 := h.pb.cell 0
  have c1 := h.pb.cell 1
  simp only [List.getElem?_cons_zero, List.getElem?_cons_succ] at c0 c1
  have f0 := h.fb.cell k
  rw [zvs_get, fRow2_get c k k (by omega), if_pos (Nat.le_refl _), ← hsl] at f0
  simp only [Option.map_some] at f0
  obtain ⟨n, hn⟩ : ∃ n, n = c.length := ⟨_, rfl⟩
  rw [← hn] at c0 hl
  have hkn : (k : Int) < (n : Int) + 1 := by omega
  have hkn2 : (k : Int) + 1 < (n : Int) + 1 := by omega
  have HN := Lib.hid hn
  clear h hfs hnx hsl hsn hle hx hx0 hp hs
  go_enter Tryz.func124, Tryz.ntmps124
  go_wp2
  clear c0 c1 f0
  go_loopw [16] (fun i wr => ∃ j : Nat, j ≤ x ∧ i = .int .i64 (j : Int) ∧ Blk wr H 231 (hvs (hRow c k j T)) ∧ TurnsB F H w wr ∧ (wr.heap[F]? = w.heap[F]?)) (fun i _ => x - (intOf i).toNat)
  case atStart => exact ⟨0, Nat.zero_le _, rfl, HSH.out.hb, TurnsB.refl _ _ _, rfl⟩
  case round =>
    obtain ⟨j, hj, rfl, hblk, hu, hF⟩ := hrel
    have HU := Lib.hid hu
    have HF := Lib.hid hF
    have hpb := HU.out.blk HSH.out.pb hPF hPH
    have c0 := hpb.cell 0
    have c1 := hpb.cell 1
    simp only [List.getElem?_cons_zero, List.getElem?_cons_succ] at c0 c1
    rw [← HN.out] at c0
    clear hu hF hpb
    by_cases hlt : j < x
    · have hlen := HLEN.out j (by omega)
      have hset := hblk.set_ (p + j) (.int .u16 (k : Int))
      rw [hvs_set, HSET.out j (by omega)] at hset
      have hgc := hblk.cell (p + j)
      have hgf := hblk.frozen (p + j)
      rw [hvs_get _ _ (by rw [hlen]; omega)] at hgc
      obtain ⟨y, hy⟩ : ∃ y, y = (hRow c k j T)[p + j]'(by rw [hlen]; omega) := ⟨_, rfl⟩
      rw [← hy] at hgc
      have HST := Lib.hid hset
      have HU2 := Lib.hid (HU.out.trans (TurnsB.set_ (p + j) (.int .u16 (k : Int))))
      have HF2 := Lib.hid (show (wr.setCell ⟨H, p + j, none⟩ (.int .u16 (k : Int))).heap[F]? = w.heap[F]? from (heap_setCell_other wr ⟨H, p + j, none⟩ F _ hFH).trans HF.out)
      have hji : (j : Int) < (x : Int) := by omega
      have hpj : (p : Int) + (j : Int) < (T : Int) := by omega
      clear hset hblk hlen hy
      go_wp2
      go_roundw
      case rel => exact ⟨j + 1, by omega, by go_num, HST.out, HU2.out, HF2.out⟩
      case measure => simp [intOf]; omega
    · obtain rfl : j = x := by omega
      rw [HNX.out] at hblk
      have hfb : Blk wr F 3 (zvs (fRow2 c k)) := HF.out.trans HSH.out.fb
      have hset := hfb.set_ (k + 1) (.int .i64 ((p : Int) + (j : Int)))
      rw [zvs_set, HFS.out] at hset
      have hgc := hfb.cell (k + 1)
      have hgf := hfb.frozen (k + 1)
      rw [zvs_get, fRow2_get c k (k + 1) (by have := HN.out; omega)] at hgc
      simp only [Option.map_some] at hgc
      have HRES := Lib.hid (show Shares (wr.setCell ⟨F, k + 1, none⟩ (.int .i64 ((p : Int) + (j : Int)))) P F H c (k + 1) b T from
        ⟨(HU.out.blk HSH.out.pb hPF hPH).setOther _ _ hPF, hset, hblk.setOther _ _ (fun e => hFH e.symm)⟩)
      have HU2 := Lib.hid (HU.out.trans (TurnsB.setT (k + 1) (.int .i64 ((p : Int) + (j : Int)))))
      clear hset hblk hfb
      go_wp2
      go_end0
      exact ⟨⟨_, rfl⟩, HRES.out, HU2.out⟩
end
end Go.Proofs.YtflcmmeoppdhdaaGreat
