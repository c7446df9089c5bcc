/-
  A range over a function that turns what is its own (blocks of S), and whose rounds all go on: a round keeps the blocks that the iterator names, the iterator keeps what the rounds lay. Out of RangeState's text. · A range over a function that turns what is its own (blocks of S), and whose rounds go on or are left (break, return): as RangeBoth, with ways out.
-/
import Derived.Test.YtjignfnkcbklkaaQ03
import Derived.Test.YtjignfnkcbklkaaQ09
namespace Go.Proofs.Ytjignfnkcbklkaa
open Go.RowKit

/-- Of all that lay, blocks of S alone have turned, and what is no cells from block N on. -/
structure TurnsF (N : Nat) (S : List Nat) (w w' : World) : Prop where
  os : w'.os = w.os
  tape : w'.tape = w.tape
  output : w'.output = w.output
  size : w.heap.size ≤ w'.heap.size
  block : ∀ k, k < w.heap.size → k ∉ S → (N ≤ k ∧ ∃ o : Obj, w.heap[k]? = some o ∧ o.isCells = false) ∨ w'.heap[k]? = w.heap[k]?
section
variable {N : Nat} {S : List Nat} {w w' : World}
theorem TurnsF.of_only (h : OnlyS S w w') : TurnsF N S w w' := ⟨h.os, h.tape, h.output, h.size, fun k hk h1 => .inr (h.block k hk h1)⟩
theorem TurnsF.of_alloc (w : World) (o : Obj) : TurnsF N S w (w.alloc o) := ⟨rfl, rfl, rfl, by simp, fun k hk _ => .inr (Below.heap_alloc _ _ _ hk)⟩
theorem TurnsF.of_put {l : Nat} {o : Obj} (hl : N ≤ l) (h : w.heap[l]? = some o) (hc : o.isCells = false) (o' : Obj) : TurnsF N S w (w.putObj l o') :=
  ⟨rfl, rfl, rfl, by simp, fun k hk _ => by
    by_cases e : k = l
    · subst e; exact .inl ⟨hl, o, h, hc⟩
    · exact .inr (World.putObj_heap_other e)⟩
theorem TurnsF.blk {g : Nat} {t : TypeId} {cs : List Value} (h : TurnsF N S w w') (hb : Blk w g t cs) (h1 : g ∉ S) : Blk w' g t cs := by
  rcases h.block g hb.lt h1 with ⟨-, o, ho, hc⟩ | e
  · rw [show w.heap[g]? = _ from hb] at ho; cases ho; cases hc
  · exact e.trans hb
theorem TurnsF.own {B n size : Nat} {t : TypeId} {v : Value} {xs : List Value} (h : TurnsF N S w w') (ho : w.ownsRow B t size v n xs) (h1 : ∀ k ∈ S, k < B) : w'.ownsRow B t size v n xs := by
  refine ⟨ho.1, ?_⟩
  rcases ho.2 with h0 | ⟨g, cap, cur, rfl, hbg, hg, rest⟩
  · exact .inl h0
  · refine .inr ⟨g, cap, cur, rfl, hbg, ?_, rest⟩
    rcases h.block g (Array.getElem?_eq_some_iff.1 hg).1 (fun hk => by have := h1 g hk; omega) with ⟨-, o, hoo, hc⟩ | e
    · rw [hg] at hoo; cases hoo; cases hc
    · exact e.trans hg
theorem TurnsF.below {B : Nat} (h : TurnsF N S w w') (hS : ∀ k ∈ S, B ≤ k) (hN : B ≤ N) (hB : B ≤ w.heap.size) : Below B w w' :=
  ⟨h.os, h.tape, h.output, h.size, fun k hk => by
    rcases h.block k (by omega) (fun h1 => by have := hS k h1; omega) with ⟨h2, -⟩ | e
    · omega
    · exact e⟩
end
section
variable {α : Type} {P : Program}
end
end Go.Proofs.Ytjignfnkcbklkaa
namespace Go.Proofs.Ytjignfnkcbklkaa
open Go.RowKit

section
variable {α : Type} {P : Program}
/-- A round leaves all that lay, but what is its own. -/
def KeepsM (mine : World → Nat → Prop) (W W' : World) : Prop := W.heap.size ≤ W'.heap.size ∧ ∀ k, k < W.heap.size → ¬ mine W k → W'.heap[k]? = W.heap[k]?
/-- The iterator hands on the elements xs, in order, up to one at which the round is left; of all that lies it turns blocks of S alone; a round keeps all but what is its own, and none of `keep` is. -/
def HandsStop (n : Nat) (P : Program) (g : Nat) (lb : Array Value) (S : List Nat) (keep : Nat → Prop) (encs : α → Array Value) (xs : List α) (w : World) : Prop :=
  ∀ (l : Nat) (J Jx : List α → World → Prop) (mine : World → Nat → Prop) (W : World), KeepsB keep w W → (∀ s A B, J s A → OnlyS S A B → J s B ∧ ∀ k, mine B k → mine A k) → (∀ s A B, Jx s A → OnlyS S A B → Jx s B) →
    (∀ s A k, J s A → mine A k → k < A.heap.size ∧ ¬ keep k) →
    (∀ pre x rest W1, pre ++ x :: rest = xs → J pre W1 → YieldAt Fence.wide (n - 1) P l (encs x) W1 fun e W' => (e = .returned (.bool true) ∧ J (pre ++ [x]) W' ∧ KeepsM mine W1 W') ∨ (e = .returned (.bool false) ∧ Jx (pre ++ [x]) W')) →
    J [] W → CallsIn Fence.wide n P g (#[.func (.yield l) #[] #[]] ++ lb) W fun e W' => (∃ v, e = .returned v) ∧ (J xs W' ∨ ∃ pre, pre <+: xs ∧ Jx pre W')

/-- How a round is left. -/
def stopOn (B : Nat) (mine : World → Nat → Prop) (I : World → Prop) (Ix : Code → World → Prop) (W : World) : Exit → Act → World → Prop
  | .normal, _, W' => KeepsFrom B W W' ∧ KeepsM mine W W' ∧ I W'
  | .ret, _, W' => KeepsFrom B W W' ∧ Ix .ret W'
  | .exit id, _, W' => KeepsFrom B W W' ∧ Ix (.exit id) W'
  | .goto t, _, W' => KeepsFrom B W W' ∧ Ix (.goto t) W'
  | _, _, _ => False

/-- THE LAW. -/
theorem wpIn_range_stop {n : Nat} {g : Operand} {ps : Array Tmp} {assign body : Code} {Q : Exit → Act → World → Prop} {a : Act} {w : World}
    (h1 : 1 ≤ n) {gf : Nat} {lb : Array Value} (hg : a.eval g = .func (.func gf) #[] lb) (eg : ∀ args w, (callFunc gf args).run P w = .ok (.enter gf args) w)
    {S : List Nat} {keep : Nat → Prop} {encs : α → Array Value} {xs : List α} (hseq : HandsStop (n - 1) P gf lb S keep encs xs w) (hlt : ∀ k, keep k → k < w.heap.size) (hS : ∀ k ∈ S, k < w.heap.size) (hps : ∀ x, (encs x).size = ps.size)
    (I : List α → World → Prop) (mine : World → Nat → Prop) (hI : ∀ s A B, I s A → TurnsF w.heap.size S A B → I s B ∧ ∀ k, mine B k → mine A k) (hm : ∀ s A k, I s A → mine A k → k < A.heap.size ∧ ¬ keep k) (Ix : Code → List α → World → Prop) (hIx : ∀ c s A B, Ix c s A → TurnsF w.heap.size S A B → Ix c s B) (h0 : I [] w) (At : α → Nat → World → Prop) (hAt : ∀ x g A B, At x g A → TurnsF w.heap.size S A B → At x g B) (a₁ : Nat → α → Act)
    (hassign : ∀ (l : Nat) (x : α) (W : World) (K : Act → World → Prop), w.heap.size ≤ W.heap.size → (∀ (g : Nat) (W' : World), W.heap.size ≤ g → Below W.heap.size W W' → At x g W' → K (a₁ g x) W') →
      assign.wpIn (Fence.wide.inRound l) (n - 1 - 1) P (Exit.then K (fun _ _ _ => False)) { tmps := (ps.zip (encs x)).foldl (fun t (p, v) => t.setIfInBounds p v) a.tmps, defers := [] } W)
    (hbody : ∀ (l : Nat) (pre : List α) (x : α) (rest : List α) (g : Nat) (W : World), pre ++ x :: rest = xs → I pre W → At x g W → ¬ mine W g → w.heap.size ≤ W.heap.size →
      body.wpIn (Fence.wide.inRound l) (n - 1 - 1) P (stopOn w.heap.size mine (I (pre ++ [x])) (fun c => Ix c (pre ++ [x])) W) (a₁ g x) W)
    (hdone : ∀ (D : Nat) (W : World), w.heap.size ≤ D → I xs W → W.heap[D]? = some (.deferred (some [])) → Q .normal { a with defers := { target := .collected D, args := #[] } :: a.defers } W)
    (hstop : ∀ (D : Nat) (c : Code) (pre : List α) (W : World), w.heap.size ≤ D → pre <+: xs → Ix c pre W → W.heap[D]? = some (.deferred (some [])) → c.wpIn Fence.wide n P Q { a with defers := { target := .collected D, args := #[] } :: a.defers } W) :
    (Code.rangeFunc g ps assign body).wpIn Fence.wide n P Q a w := by
  refine wpIn_rangeFunc ?_
  intro fn hfn
  obtain ⟨rec, hrec⟩ : ∃ rec : LoopState → Option Code → Loop, rec = fun st pe => { state := st, pending := pe, fn, tmps := a.tmps, params := ps, assign, body, defers := w.heap.size } := ⟨_, rfl⟩
  obtain ⟨W1, hW1⟩ : ∃ W1, (w.alloc (.deferred (some []))).alloc (.loop (rec .ready none)) = W1 := ⟨_, rfl⟩
  have hsz : W1.heap.size = w.heap.size + 2 := by rw [← hW1]; simp
  have hrow : W1.heap[w.heap.size + 1]? = some (.loop (rec .ready none)) := by
    rw [← hW1]; have := World.alloc_heap_new (w.alloc (.deferred (some []))) (.loop (rec .ready none)); rwa [World.size_alloc] at this
  have hdef : W1.heap[w.heap.size]? = some (.deferred (some [])) := by
    rw [← hW1]; exact (Below.heap_alloc _ _ _ (by simp)).trans (World.alloc_heap_new w _)
  have hold : ∀ k, k < w.heap.size → W1.heap[k]? = w.heap[k]? := fun k hk => by
    rw [← hW1, Below.heap_alloc _ _ _ (by simp; omega), Below.heap_alloc _ _ _ hk]
  have hI1 : I [] W1 := by
    rw [← hW1]
    exact (hI _ _ _ (hI _ _ _ h0 (TurnsF.of_alloc _ _)).1 (TurnsF.of_alloc _ _)).1
  have hput : ∀ s (A : World) (o o' : Obj), I s A → A.heap[w.heap.size + 1]? = some o → o.isCells = false → I s (A.putObj (w.heap.size + 1) o') := fun s A o o' hs ho hc =>
    (hI s A _ hs (TurnsF.of_put (by omega) ho hc o')).1
  have hputm : ∀ s (A : World) (o o' : Obj), I s A → A.heap[w.heap.size + 1]? = some o → o.isCells = false → ∀ k, mine (A.putObj (w.heap.size + 1) o') k → mine A k := fun s A o o' hs ho hc =>
    (hI s A _ hs (TurnsF.of_put (by omega) ho hc o')).2
  have hputx : ∀ c s (A : World) (o o' : Obj), Ix c s A → A.heap[w.heap.size + 1]? = some o → o.isCells = false → Ix c s (A.putObj (w.heap.size + 1) o') := fun c s A o o' hs ho hc =>
    hIx c s A _ hs (TurnsF.of_put (by omega) ho hc o')
  have hns : ∀ k, w.heap.size ≤ k → k ∉ S := fun k hk h => by have := hS k h; omega
  refine ⟨w.heap.size + 1, [{ target := .collected w.heap.size, args := #[] }], W1, { target := .fn (.func gf) lb, args := #[.func (.yield (w.heap.size + 1)) #[] #[]] }, W1, gf,
    #[.func (.yield (w.heap.size + 1)) #[] #[]] ++ lb, W1, ?_, ?_, fun _ _ => trivial, ?_, fun _ => h1, ?_⟩
  · rw [← hW1, hrec]; exact run_enterLoop_outer _ _ _ _ _
  · simp only [resolve, hg]
    simp [go_sem]
  · simp [invoke, go_sem, eg]
  · refine (hseq (w.heap.size + 1)
      (fun pre W => I pre W ∧ W.heap[w.heap.size + 1]? = some (.loop (rec .ready none)) ∧ W.heap[w.heap.size]? = some (.deferred (some [])) ∧ w.heap.size ≤ W.heap.size)
      (fun pre W => ∃ c, Ix c pre W ∧ W.heap[w.heap.size + 1]? = some (.loop (rec .done (some c))) ∧ W.heap[w.heap.size]? = some (.deferred (some [])))
      (fun A k => mine A k ∨ k = w.heap.size + 1) W1 ⟨by omega, fun k hk => hold k (hlt k hk)⟩ ?_ ?_ ?_ ?_ ⟨hI1, hrow, hdef, by omega⟩).mono ?_
    · rintro s A B ⟨x1, x2, x3, x4⟩ hu
      have l2 := (Array.getElem?_eq_some_iff.1 x2).1
      obtain ⟨i1, i2⟩ := hI s A B x1 (TurnsF.of_only hu)
      exact ⟨⟨i1, (hu.block _ l2 (hns _ (by omega))).trans x2, (hu.block _ (by omega) (hns _ (Nat.le_refl _))).trans x3, Nat.le_trans x4 hu.size⟩, fun k hk => hk.imp (i2 k) id⟩
    · rintro s A B ⟨c, x1, x2, x3⟩ hu
      have l2 := (Array.getElem?_eq_some_iff.1 x2).1
      have l3 := (Array.getElem?_eq_some_iff.1 x3).1
      exact ⟨c, hIx c s A B x1 (TurnsF.of_only hu), (hu.block _ l2 (hns _ (by omega))).trans x2, (hu.block _ l3 (hns _ (Nat.le_refl _))).trans x3⟩
    · rintro s A k ⟨x1, x2, x3, x4⟩ (h | rfl)
      · exact hm s A k x1 h
      · exact ⟨(Array.getElem?_eq_some_iff.1 x2).1, fun h => by have := hlt _ h; omega⟩
    · rintro pre x rest W hxs ⟨x1, x2, x3, x4⟩
      have hlt2 : w.heap.size + 1 < W.heap.size := (Array.getElem?_eq_some_iff.1 x2).1
      have hy := run_yield (P := P) (args := encs x) x2 (by rw [hrec]; exact hps x)
      rw [hrec] at hy
      refine ⟨fn, _, assign, body, hy, roundIn_of_wpIn hfn (hassign _ x W _ x4 ?_)⟩
      intro g Wa hg hba hat
      have a2 := (hba.block _ hlt2).trans x2
      have a3 := (hba.block _ (by omega)).trans x3
      have hlta : w.heap.size + 1 < Wa.heap.size := (Array.getElem?_eq_some_iff.1 a2).1
      obtain ⟨a1, am⟩ := hI _ _ _ x1 (TurnsF.of_only (OnlyS.of_below hba))
      refine ⟨_, run_beginRound a2 (by rw [hrec]), ?_⟩
      obtain ⟨W2, hW2⟩ : ∃ W2, Wa.putObj (w.heap.size + 1) (.loop { rec .ready none with state := .busy }) = W2 := ⟨_, rfl⟩
      have y2 : W2.heap[w.heap.size + 1]? = some (.loop { rec .ready none with state := .busy }) := by rw [← hW2]; exact World.putObj_heap_same hlta
      have y3 : W2.heap[w.heap.size]? = some (.deferred (some [])) := by rw [← hW2]; exact (World.putObj_heap_other (by omega)).trans a3
      have y1 : I pre W2 := by rw [← hW2]; exact hput _ _ _ _ a1 a2 rfl
      have yt : At x g W2 := by rw [← hW2]; exact hAt _ _ _ _ hat (TurnsF.of_put (by omega) a2 rfl _)
      have y4 : w.heap.size ≤ W2.heap.size := by rw [← hW2]; simp; omega
      have ym : ∀ k, mine W2 k → mine W k := fun k hk => am k (by rw [← hW2] at hk; exact hputm _ _ _ _ a1 a2 rfl k hk)
      have yk : ∀ k, k < W.heap.size → k ≠ w.heap.size + 1 → W2.heap[k]? = W.heap[k]? := fun k hl hk => by rw [← hW2]; exact (World.putObj_heap_other hk).trans (hba.block k hl)
      have ys : W.heap.size ≤ W2.heap.size := by rw [← hW2]; simp; exact hba.size
      rw [hW2]
      have fin : ∀ (jump : Option Code) (W3 : World), KeepsFrom w.heap.size W2 W3 →
          (Instr.endRound (w.heap.size + 1) jump).run P W3 = .ok (.bool jump.isNone) (W3.putObj (w.heap.size + 1) (.loop (rec (if jump.isNone then .ready else .done) jump))) ∧
          W3.heap[w.heap.size + 1]? = some (.loop { rec .ready none with state := .busy }) ∧
          (W3.putObj (w.heap.size + 1) (.loop (rec (if jump.isNone then .ready else .done) jump))).heap[w.heap.size + 1]? = some (.loop (rec (if jump.isNone then .ready else .done) jump)) ∧
          (W3.putObj (w.heap.size + 1) (.loop (rec (if jump.isNone then .ready else .done) jump))).heap[w.heap.size]? = some (.deferred (some [])) := fun jump W3 hk3 => by
        have hl3 := hk3.same _ _ (by omega) y2 rfl
        have := run_endRound (P := P) jump hl3
        rw [hrec] at this ⊢
        exact ⟨this, by rw [hrec] at hl3; exact hl3, World.putObj_heap_same (Array.getElem?_eq_some_iff.1 hl3).1, (World.putObj_heap_other (by omega)).trans (hk3.same _ _ (Nat.le_refl _) y3 rfl)⟩
      refine wpIn_mono (hbody _ pre x rest g W2 hxs y1 yt (fun h => by have := (hm _ _ _ x1 (ym g h)).1; omega) y4) ?_
      rintro e a3 W3 hp
      cases e with
      | normal =>
        obtain ⟨hk3, hkp3, hi3⟩ := hp
        obtain ⟨hr, hl3, hl4, hk4⟩ := fin none W3 hk3
        have hs3 : w.heap.size ≤ (W3.putObj (w.heap.size + 1) (.loop (rec .ready none))).heap.size := by have := hk3.size; simp; omega
        refine ⟨_, _, hr, .inl ⟨rfl, ⟨hput _ _ _ _ hi3 hl3 rfl, hl4, hk4, hs3⟩, ?_⟩⟩
        refine ⟨by have := hkp3.1; simp; omega, fun k hk hkm => ?_⟩
        have hk1 : k ≠ w.heap.size + 1 := fun e => hkm (.inr e)
        exact (World.putObj_heap_other hk1).trans ((hkp3.2 k (by omega) (fun h => hkm (.inl (ym k h)))).trans (yk k hk hk1))
      | ret =>
        obtain ⟨hk3, hi3⟩ := hp
        obtain ⟨hr, hl3, hl4, hk4⟩ := fin (some .ret) W3 hk3
        exact ⟨_, _, hr, .inr ⟨rfl, .ret, hputx _ _ _ _ _ hi3 hl3 rfl, hl4, hk4⟩⟩
      | exit id =>
        obtain ⟨hk3, hi3⟩ := hp
        obtain ⟨hr, hl3, hl4, hk4⟩ := fin (some (.exit id)) W3 hk3
        exact ⟨_, _, hr, .inr ⟨rfl, .exit id, hputx _ _ _ _ _ hi3 hl3 rfl, hl4, hk4⟩⟩
      | goto t =>
        obtain ⟨hk3, hi3⟩ := hp
        obtain ⟨hr, hl3, hl4, hk4⟩ := fin (some (.goto t)) W3 hk3
        exact ⟨_, _, hr, .inr ⟨rfl, .goto t, hputx _ _ _ _ _ hi3 hl3 rfl, hl4, hk4⟩⟩
      | panic ch => exact hp.elim
      | outgrown => exact hp.elim
    · rintro e W2 ⟨⟨v, rfl⟩, (⟨x1, x2, x3, x4⟩ | ⟨pre, hpx, c, x1, x2, x3⟩)⟩
      · have hend := run_endLoop (P := P) x2 (by rw [hrec]; simp)
        rw [hrec] at hend
        exact ⟨none, _, hend, hdone _ _ (Nat.le_refl _) (hput _ _ _ _ x1 x2 rfl) ((World.putObj_heap_other (by omega)).trans x3)⟩
      · have hend := run_endLoop (P := P) x2 (by rw [hrec]; simp)
        rw [hrec] at hend
        exact ⟨some c, _, hend, hstop _ c pre _ (Nat.le_refl _) hpx (hputx _ _ _ _ _ x1 x2 rfl) ((World.putObj_heap_other (by omega)).trans x3)⟩
end
end Go.Proofs.Ytjignfnkcbklkaa
