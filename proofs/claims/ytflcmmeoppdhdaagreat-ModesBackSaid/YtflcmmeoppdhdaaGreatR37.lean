/-
  A range over a function that turns what is its own (blocks of S), and whose rounds all go on: a round keeps the blocks that the iterator names, the iterator keeps what the rounds lay. Out of RangeState's text. · Layer 26: the bytes that are taken, one behind the other (an iterator). · Layer 26: what is decoded by a way. · Layer 26: a byte, taken bit by bit. · Layer 26: a byte, taken as a letter.
-/
import Derived.Test.YtflcmmeoppdhdaaGreatR24
import Derived.Test.YtflcmmeoppdhdaaGreatR31
import Derived.Test.YtflcmmeoppdhdaaGreatR36
import Derived.BigRegionIn
import Derived.OwnWalkIn
namespace Go.Proofs.YtflcmmeoppdhdaaGreat
open Go.RowKit

/-- Of all that lay, blocks of S alone have turned, and what is no cells from block N on. -/
structure TurnsF (N : Nat) (S : List Nat) (w w' : World) : Prop where
  os : w'.os = w.os
  tape : w'.tape = w.tape
  output : w'.output = w.output
  size : w.heap.size ≤ w'.heap.size
  block : ∀ k, k < w.heap.size → k ∉ S → (N ≤ k ∧ ∃ o : Obj, w.heap[k]? = some o ∧ o.isCells = false) ∨ w'.heap[k]? = w.heap[k]?
section
variable {N : Nat} {S : List Nat} {w w' : World}
theorem TurnsF.of_only (h : OnlyS S w w') : TurnsF N S w w' := ⟨h.os, h.tape, h.output, h.size, fun k hk h1 => .inr (h.block k hk h1)⟩
theorem TurnsF.of_alloc (w : World) (o : Obj) : TurnsF N S w (w.alloc o) := ⟨rfl, rfl, rfl, by simp, fun k hk _ => .inr (Below.heap_alloc _ _ _ hk)⟩
theorem TurnsF.of_put {l : Nat} {o : Obj} (hl : N ≤ l) (h : w.heap[l]? = some o) (hc : o.isCells = false) (o' : Obj) : TurnsF N S w (w.putObj l o') :=
  ⟨rfl, rfl, rfl, by simp, fun k hk _ => by
    by_cases e : k = l
    · subst e; exact .inl ⟨hl, o, h, hc⟩
    · exact .inr (World.putObj_heap_other e)⟩
theorem TurnsF.blk {g : Nat} {t : TypeId} {cs : List Value} (h : TurnsF N S w w') (hb : Blk w g t cs) (h1 : g ∉ S) : Blk w' g t cs := by
  rcases h.block g hb.lt h1 with ⟨-, o, ho, hc⟩ | e
  · rw [show w.heap[g]? = _ from hb] at ho; cases ho; cases hc
  · exact e.trans hb
theorem TurnsF.own {B n size : Nat} {t : TypeId} {v : Value} {xs : List Value} (h : TurnsF N S w w') (ho : w.ownsRow B t size v n xs) (h1 : ∀ k ∈ S, k < B) : w'.ownsRow B t size v n xs := by
  refine ⟨ho.1, ?_⟩
  rcases ho.2 with h0 | ⟨g, cap, cur, rfl, hbg, hg, rest⟩
  · exact .inl h0
  · refine .inr ⟨g, cap, cur, rfl, hbg, ?_, rest⟩
    rcases h.block g (Array.getElem?_eq_some_iff.1 hg).1 (fun hk => by have := h1 g hk; omega) with ⟨-, o, hoo, hc⟩ | e
    · rw [hg] at hoo; cases hoo; cases hc
    · exact e.trans hg
theorem TurnsF.below {B : Nat} (h : TurnsF N S w w') (hS : ∀ k ∈ S, B ≤ k) (hN : B ≤ N) (hB : B ≤ w.heap.size) : Below B w w' :=
  ⟨h.os, h.tape, h.output, h.size, fun k hk => by
    rcases h.block k (by omega) (fun h1 => by have := hS k h1; omega) with ⟨h2, -⟩ | e
    · omega
    · exact e⟩
end
section
variable {α : Type} {P : Program}
/-- The iterator: function g with what it has captured hands on the elements xs, in order; of all that lies it turns blocks of S alone; E: what it leaves. -/
def HandsBoth (n : Nat) (P : Program) (g : Nat) (lb : Array Value) (S : List Nat) (keep : Nat → Prop) (encs : α → Array Value) (xs : List α) (E : World → Prop) (w : World) : Prop :=
  ∀ (l : Nat) (J : List α → World → Prop) (W : World), KeepsB keep w W → (∀ s A B, J s A → OnlyS S A B → J s B) →
    (∀ pre x rest W1, pre ++ x :: rest = xs → J pre W1 → YieldAt Fence.wide (n - 1) P l (encs x) W1 fun e W' => e = .returned (.bool true) ∧ J (pre ++ [x]) W' ∧ KeepsB keep W1 W') →
    J [] W → CallsIn Fence.wide n P g (#[.func (.yield l) #[] #[]] ++ lb) W fun e W' => (∃ v, e = .returned v) ∧ J xs W' ∧ E W'

/-- THE LAW. -/
theorem wpIn_range_both {n : Nat} {g : Operand} {ps : Array Tmp} {assign body : Code} {Q : Exit → Act → World → Prop} {a : Act} {w : World}
    (h1 : 1 ≤ n) {gf : Nat} {lb : Array Value} (hg : a.eval g = .func (.func gf) #[] lb) (eg : ∀ args w, (callFunc gf args).run P w = .ok (.enter gf args) w)
    {S : List Nat} {keep : Nat → Prop} {encs : α → Array Value} {xs : List α} {E : World → Prop} (hseq : HandsBoth (n - 1) P gf lb S keep encs xs E w) (hlt : ∀ k, keep k → k < w.heap.size) (hS : ∀ k ∈ S, k < w.heap.size) (hps : ∀ x, (encs x).size = ps.size)
    (hE : ∀ A B, E A → TurnsF w.heap.size [] A B → E B)
    (I : List α → World → Prop) (hI : ∀ s A B, I s A → TurnsF w.heap.size S A B → I s B) (h0 : I [] w) (a₁ : α → Act)
    (hassign : ∀ (l : Nat) (x : α) (W : World) (K : Act → World → Prop), K (a₁ x) W →
      assign.wpIn (Fence.wide.inRound l) (n - 1 - 1) P (Exit.then K (fun _ _ _ => False)) { tmps := (ps.zip (encs x)).foldl (fun t (p, v) => t.setIfInBounds p v) a.tmps, defers := [] } W)
    (hbody : ∀ (l : Nat) (pre : List α) (x : α) (rest : List α) (W : World), pre ++ x :: rest = xs → I pre W → w.heap.size ≤ W.heap.size →
      body.wpIn (Fence.wide.inRound l) (n - 1 - 1) P (goesOn w.heap.size keep (I (pre ++ [x])) W) (a₁ x) W)
    (hdone : ∀ (D : Nat) (W : World), w.heap.size ≤ D → I xs W → E W → W.heap[D]? = some (.deferred (some [])) → Q .normal { a with defers := { target := .collected D, args := #[] } :: a.defers } W) :
    (Code.rangeFunc g ps assign body).wpIn Fence.wide n P Q a w := by
  refine wpIn_rangeFunc ?_
  intro fn hfn
  obtain ⟨rec, hrec⟩ : ∃ rec : LoopState → Loop, rec = fun st => { state := st, pending := none, fn, tmps := a.tmps, params := ps, assign, body, defers := w.heap.size } := ⟨_, rfl⟩
  obtain ⟨W1, hW1⟩ : ∃ W1, (w.alloc (.deferred (some []))).alloc (.loop (rec .ready)) = W1 := ⟨_, rfl⟩
  have hsz : W1.heap.size = w.heap.size + 2 := by rw [← hW1]; simp
  have hrow : W1.heap[w.heap.size + 1]? = some (.loop (rec .ready)) := by
    rw [← hW1]; have := World.alloc_heap_new (w.alloc (.deferred (some []))) (.loop (rec .ready)); rwa [World.size_alloc] at this
  have hdef : W1.heap[w.heap.size]? = some (.deferred (some [])) := by
    rw [← hW1]; exact (Below.heap_alloc _ _ _ (by simp)).trans (World.alloc_heap_new w _)
  have hold : ∀ k, k < w.heap.size → W1.heap[k]? = w.heap[k]? := fun k hk => by
    rw [← hW1, Below.heap_alloc _ _ _ (by simp; omega), Below.heap_alloc _ _ _ hk]
  have hI1 : I [] W1 := by
    rw [← hW1]
    exact hI _ _ _ (hI _ _ _ h0 (TurnsF.of_alloc _ _)) (TurnsF.of_alloc _ _)
  have hput : ∀ s (A : World) (o o' : Obj), I s A → A.heap[w.heap.size + 1]? = some o → o.isCells = false → I s (A.putObj (w.heap.size + 1) o') := fun s A o o' hs ho hc =>
    hI s A _ hs (TurnsF.of_put (by omega) ho hc o')
  have kput : ∀ (A : World) (o' : Obj), KeepsB keep A (A.putObj (w.heap.size + 1) o') := fun A o' =>
    ⟨by simp, fun k hk => World.putObj_heap_other (by have := hlt k hk; omega)⟩
  have hns : ∀ k, w.heap.size ≤ k → k ∉ S := fun k hk h => by have := hS k h; omega
  refine ⟨w.heap.size + 1, [{ target := .collected w.heap.size, args := #[] }], W1, { target := .fn (.func gf) lb, args := #[.func (.yield (w.heap.size + 1)) #[] #[]] }, W1, gf,
    #[.func (.yield (w.heap.size + 1)) #[] #[]] ++ lb, W1, ?_, ?_, fun _ _ => trivial, ?_, fun _ => h1, ?_⟩
  · rw [← hW1, hrec]; exact run_enterLoop_outer _ _ _ _ _
  · simp only [resolve, hg]
    simp [go_sem]
  · simp [invoke, go_sem, eg]
  · refine (hseq (w.heap.size + 1)
      (fun pre W => I pre W ∧ W.heap[w.heap.size + 1]? = some (.loop (rec .ready)) ∧ W.heap[w.heap.size]? = some (.deferred (some [])) ∧ w.heap.size ≤ W.heap.size)
      W1 ⟨by omega, fun k hk => hold k (hlt k hk)⟩ ?_ ?_ ⟨hI1, hrow, hdef, by omega⟩).mono ?_
    · rintro s A B ⟨x1, x2, x3, x4⟩ hu
      have l2 := (Array.getElem?_eq_some_iff.1 x2).1
      exact ⟨hI s A B x1 (TurnsF.of_only hu), (hu.block _ l2 (hns _ (by omega))).trans x2, (hu.block _ (by omega) (hns _ (Nat.le_refl _))).trans x3, Nat.le_trans x4 hu.size⟩
    · rintro pre x rest W hxs ⟨x1, x2, x3, x4⟩
      have hlt2 : w.heap.size + 1 < W.heap.size := (Array.getElem?_eq_some_iff.1 x2).1
      have hy := run_yield (P := P) (args := encs x) x2 (by rw [hrec]; exact hps x)
      rw [hrec] at hy
      refine ⟨fn, _, assign, body, hy, roundIn_of_wpIn hfn (hassign _ x W _ ⟨_, run_beginRound x2 (by rw [hrec]), ?_⟩)⟩
      obtain ⟨W2, hW2⟩ : ∃ W2, W.putObj (w.heap.size + 1) (.loop { rec .ready with state := .busy }) = W2 := ⟨_, rfl⟩
      have y2 : W2.heap[w.heap.size + 1]? = some (.loop { rec .ready with state := .busy }) := by rw [← hW2]; exact World.putObj_heap_same hlt2
      have y3 : W2.heap[w.heap.size]? = some (.deferred (some [])) := by rw [← hW2]; exact (World.putObj_heap_other (by omega)).trans x3
      have y1 : I pre W2 := by rw [← hW2]; exact hput _ _ _ _ x1 x2 rfl
      have y4 : w.heap.size ≤ W2.heap.size := by rw [← hW2]; simpa using x4
      have yk : KeepsB keep W W2 := by rw [← hW2]; exact kput _ _
      rw [hW2]
      refine wpIn_mono (hbody _ pre x rest W2 hxs y1 y4) ?_
      rintro e a3 W3 hp
      cases e with
      | normal =>
        obtain ⟨hk3, hkp3, hi3⟩ := hp
        have z2 := hk3.same _ _ (by omega) y2 rfl
        have z3 := hk3.same _ _ (Nat.le_refl _) y3 rfl
        have hend := run_endRound (P := P) none z2
        rw [hrec] at hend z2
        refine ⟨_, _, hend, rfl, ⟨hput _ _ _ _ hi3 z2 rfl, ?_, (World.putObj_heap_other (by omega)).trans z3, ?_⟩, yk.trans (hkp3.trans (kput _ _))⟩
        · rw [hrec]; exact World.putObj_heap_same (Array.getElem?_eq_some_iff.1 z2).1
        · have := hk3.size; simp; omega
      | ret => exact hp.elim
      | exit id => exact hp.elim
      | goto t => exact hp.elim
      | panic ch => exact hp.elim
      | outgrown => exact hp.elim
    · rintro e W2 ⟨⟨v, rfl⟩, ⟨x1, x2, x3, x4⟩, he⟩
      have hend := run_endLoop (P := P) x2 (by rw [hrec]; simp)
      rw [hrec] at hend
      exact ⟨none, _, hend, hdone _ _ (Nat.le_refl _) (hput _ _ _ _ x1 x2 rfl) (hE _ _ he (TurnsF.of_put (by omega) x2 rfl _)) ((World.putObj_heap_other (by omega)).trans x3)⟩
end
end Go.Proofs.YtflcmmeoppdhdaaGreat
namespace Go.Proofs.YtflcmmeoppdhdaaGreat
open Go.RowKit Go.Sort Go.Shelf

section
variable {σ : Type} {V : Way σ}
/-- How a decoder stands behind bytes pre of l. -/
def GoodB (V : Way σ) (s0 : σ) (l X : List Nat) (dn : Nat) (pre : List Nat) (L R : Nat) (st : Nat × List Nat × Nat) : Prop :=
  (∀ c rest, l = pre ++ c :: rest → ∃ T, st = restS T X ∧ Laid L R (V.all (V.seen s0 pre) (c :: rest)) T ∧ InSpan L R ∧ 65536 ≤ R) ∧ (l = pre → doneS st = dn)
theorem GoodB.next {s0 : σ} {l X pre rest T : List Nat} {dn c L R : Nat} (h : l = pre ++ c :: rest) (hdn : l ≠ [] → dn = if X = [] then 0 else 16) (hla : Laid L R (V.all (V.next (V.seen s0 pre) c) rest) T) (hs : InSpan L R) (hR : 65536 ≤ R) : GoodB V s0 l X dn (pre ++ [c]) L R (restS T X) := by
  refine ⟨fun c' rest' h' => ?_, fun h' => ?_⟩
  · rw [h, List.append_assoc] at h'
    have e := List.append_cancel_left h'
    simp only [List.singleton_append, List.cons.injEq, true_and] at e
    subst e
    exact ⟨T, rfl, by rw [Way.seen_snoc]; exact hla, hs, hR⟩
  · have e : c :: rest = [c] := List.append_cancel_left (h.symm.trans h')
    simp only [List.cons.injEq, true_and] at e
    subst e
    rw [hdn (by rw [h]; simp)]
    have hT : T = be4 L := by
      cases hla with
      | last => rfl
    rw [hT]
    show (if (0 : Nat) = 0 then (if (be4 L ++ X).drop 4 = [] then 0 else 16) else 0) = _
    rw [if_pos rfl, show (be4 L ++ X).drop 4 = X from rfl]
/-- How all stands behind bytes pre of l. -/
structure TkSt (V : Way σ) (At : σ → World → Prop) (s0 : σ) (l X : List Nat) (dn D Kd Bn Bt Bd : Nat) (f : Value) (pre : List Nat) (L R : Nat) (st : Nat × List Nat × Nat) (w : World) : Prop where
  bn : Boxed w Bn 3 (.int .i64 (l.length : Int))
  bt : Boxed w Bt 148 f
  bd : Boxed w Bd 193 (.pointer (some ⟨D, 0, none⟩))
  at_ : At (V.seen s0 pre) w
  d : DecAt w D Kd L R st
  good : GoodB V s0 l X dn pre L R st
theorem TkSt.kept {K : Nat} {caps : Array Value} {S : List Nat} {own keep : Nat → Prop} {At : σ → World → Prop} {s0 : σ} {l X pre : List Nat} {dn D Kd Bn Bt Bd L R : Nat} {f : Value} {st : Nat × List Nat × Nat} {w w' : World} (HJ : TakeJ V K caps S own At)
    (hk : (∀ k, k ≤ D → keep k) ∧ (∀ k, own k → keep k) ∧ keep Bn ∧ keep Bt ∧ keep Bd) (h : TkSt V At s0 l X dn D Kd Bn Bt Bd f pre L R st w) (hb : KeepsB keep w w') : TkSt V At s0 l X dn D Kd Bn Bt Bd f pre L R st w' :=
  ⟨(hb.2 _ hk.2.2.1).trans h.bn, (hb.2 _ hk.2.2.2.1).trans h.bt, (hb.2 _ hk.2.2.2.2).trans h.bd, HJ.kept h.at_ fun k ho => hb.2 k (hk.2.1 k ho), h.d.kept fun k hkd => hb.2 k (hk.1 k hkd), h.good⟩
set_option maxRecDepth 100000 in
set_option maxHeartbeats 4000000 in
theorem taken1_hands {K : Nat} {caps : Array Value} {S : List Nat} {own keep : Nat → Prop} {At : σ → World → Prop} (HJ : TakeJ V K caps S own At) (hE : Enters Tryz.prog K) (N : Nat) (hN : 1 ≤ N) {D Kd Bn Bt Bd : Nat} {l X : List Nat} {s0 : σ} {dn L0 R0 : Nat} {st0 : Nat × List Nat × Nat} {w : World}
    (hk : (∀ k, k ≤ D → keep k) ∧ (∀ k, own k → keep k) ∧ keep Bn ∧ keep Bt ∧ keep Bd) (hS : Bn ∉ D :: S ∧ Bt ∉ D :: S ∧ Bd ∉ D :: S) (hi : V.inv s0) (hl : ∀ c ∈ l, c < 256) (hX : ∀ y ∈ X, y < 256) (hlen : l.length ≤ 1000000) (hdn : l ≠ [] → dn = if X = [] then 0 else 16)
    (h0 : TkSt V At s0 l X dn D Kd Bn Bt Bd (.func (.func K) #[] caps) [] L0 R0 st0 w) :
    HandsBoth N Tryz.prog 187 #[.pointer (some ⟨Bn, 0, none⟩), .pointer (some ⟨Bt, 0, none⟩), .pointer (some ⟨Bd, 0, none⟩)] (D :: S) keep (fun c : Nat => #[Value.int .u8 (c : Int)]) l (fun W => ∃ L R st, DecAt W D Kd L R st ∧ doneS st = dn) w := by
  intro lp J W hW hJ hY hJ0
  have HH := Lib.hid HJ
  have HE := Lib.hid hE
  have HK := Lib.hid hk
  have HS := Lib.hid hS
  have HI := Lib.hid hi
  have HL := Lib.hid hl
  have HX := Lib.hid hX
  have HDN := Lib.hid hdn
  have h0' := h0.kept HJ hk hW
  have hcn := h0'.bn.cell
  have H0 := Lib.hid h0'
  clear HJ hE hk hS hi hl hX hdn h0 h0' hW
  refine callsIn_of_wp Tryz.func187 rfl trivial ?_ rfl
  simp only [Tryz.ntmps187, List.size_toArray, List.length_cons, List.length_nil, Nat.reduceAdd, Nat.reduceSub, Array.replicate_succ, Array.replicate_zero, List.push_toArray, List.append_toArray, List.nil_append, List.cons_append]
  gi_wp2
  gi_loopw [7] (fun i wr => ∃ (pre rest : List Nat) (L R : Nat) (st : Nat × List Nat × Nat), l = pre ++ rest ∧ i = .int .i64 (pre.length : Int) ∧ TkSt V At s0 l X dn D Kd Bn Bt Bd (.func (.func K) #[] caps) pre L R st wr ∧ J pre wr)
    (fun i _ => l.length - (intOf i).toNat)
  case atStart => exact ⟨[], l, L0, R0, st0, rfl, rfl, H0.out, hJ0⟩
  case round =>
    clear H0 hcn hJ0
    obtain ⟨pre, rest, L, R, st, hl2, rfl, ht, hj⟩ := hrel
    have HT := Lib.hid ht
    have hct := ht.bt.cell
    have hcd := ht.bd.cell
    have hll : l.length = pre.length + rest.length := by rw [hl2, List.length_append]
    clear ht
    cases rest with
    | nil =>
      rw [List.append_nil] at hl2
      have hge : ¬ ((pre.length : Int) < (l.length : Int)) := by rw [hl2]; omega
      have HEND := Lib.hid (HT.out.good.2 hl2)
      clear hct hcd
      gi_wp2
      go_end0
      exact ⟨⟨_, rfl⟩, hj, L, R, st.1, st.2.1, st.2.2, HT.out.d, HEND.out⟩
    | cons c r =>
      have hlt : (pre.length : Int) < (l.length : Int) := by rw [hll, List.length_cons]; omega
      have hpl : pre.length < 1000000 := by rw [hll, List.length_cons] at hlen; omega
      have hmem : ∀ x ∈ pre, x < 256 := fun x hx => HL.out x (by rw [hl2]; simp [hx])
      have hmem2 : ∀ x ∈ c :: r, x < 256 := fun x hx => HL.out x (by rw [hl2]; simp only [List.mem_append]; exact .inr hx)
      have hinv := Way.seen_inv pre HI.out hmem
      obtain ⟨T, hst, hla, hsp, hR⟩ := HT.out.good.1 c r hl2
      have hd := HT.out.d
      rw [hst] at hd
      have CT := Lib.hid (HH.out.take hinv (hmem2 c (by simp)) HT.out.at_ hd hla hsp hR (Way.all_ok (V := V) (c :: r) hinv hmem2) HX.out)
      have HL2 := Lib.hid hl2
      have HJ2 := Lib.hid hj
      clear hmem hmem2 hinv hst hla hsp hR hd hl2 hj hll
      gi_wp2_with fail
      refine ⟨trivial, ?_⟩
      rw [HE.out]
      refine ⟨(fun h => by cases h), ?_⟩
      refine (callsIn_wide.2 CT.out).mono ?_
      rintro e w3 ⟨rfl, L', R', T', hla, hsp, hR, hat, hd, hu⟩
      have HG := Lib.hid (GoodB.next HL2.out HDN.out hla hsp hR)
      have hs := HS.out
      have ht3 : Boxed w3 Bn 3 (.int .i64 (l.length : Int)) ∧ Boxed w3 Bt 148 (.func (.func K) #[] caps) ∧ Boxed w3 Bd 193 (.pointer (some ⟨D, 0, none⟩)) := ⟨hu.blk (cs := [_]) HT.out.bn hs.1, hu.blk (cs := [_]) HT.out.bt hs.2.1, hu.blk (cs := [_]) HT.out.bd hs.2.2⟩
      have HT3 := Lib.hid ht3
      have HA3 := Lib.hid hat
      have HD3 := Lib.hid hd
      have HJ3 := Lib.hid (hJ _ _ _ HJ2.out hu)
      have hcd := ht3.2.2.cell
      have ce := decErr_any hd
      rw [show (((restS T' X).2.2 : Nat) : Int) = 0 from rfl] at ce
      have CE := Lib.hid ce
      clear hla hsp hR hat hd hu hs ht3 CT HT HJ2 ce
      gi_wp2_with fail
      refine ⟨trivial, (callsIn_wide.2 CE.out).mono ?_⟩
      rintro e w' ⟨rfl, hw⟩
      obtain rfl : _ = w' := hw.symm
      obtain ⟨fn, tmps, assign, body, hy, hYR⟩ := hY pre c r _ HL2.out.symm HJ3.out
      gi_wp2
      refine hYR.mono ?_
      rintro e3 w4 ⟨rfl, hJ4, hk4⟩
      have hT4 := TkSt.kept HH.out HK.out ⟨HT3.out.1, HT3.out.2.1, HT3.out.2.2, (by rw [Way.seen_snoc]; exact HA3.out), HD3.out, HG.out⟩ hk4
      have HT4 := Lib.hid hT4
      clear hT4 hk4 HT3 HA3 HD3 HG CE
      gi_wp2
      refine ⟨⟨pre ++ [c], r, L', R', _, by rw [HL2.out, List.append_assoc]; rfl, ?_, HT4.out, hJ4⟩, ?_⟩
      · rw [List.length_append, List.length_singleton]
        exact congrArg (Value.int IntKind.i64) (by omega)
      · simp only [intOf]
        omega
end
end Go.Proofs.YtflcmmeoppdhdaaGreat
namespace Go.Proofs.YtflcmmeoppdhdaaGreat
open Go.RowKit Go.Sort Go.Shelf
attribute [local go_sem] Oper.semAt_some

theorem takenBl_any (D K : Nat) (n : Int) (caps : Array Value) (w : World) : Calls Tryz.prog 140 #[.pointer (some ⟨D, 0, none⟩), .int .i64 n, .func (.func K) #[] caps] w fun e w' =>
    e = .returned (.func (.func 187) #[] #[.pointer (some ⟨w.heap.size + 1, 0, none⟩), .pointer (some ⟨w.heap.size + 1 + 1, 0, none⟩), .pointer (some ⟨w.heap.size, 0, none⟩)]) ∧ w'.heap.size = w.heap.size + 3 ∧
      Boxed w' (w.heap.size + 1) 3 (.int .i64 n) ∧ Boxed w' (w.heap.size + 1 + 1) 148 (.func (.func K) #[] caps) ∧ Boxed w' w.heap.size 193 (.pointer (some ⟨D, 0, none⟩)) ∧ Below w.heap.size w w' := by
  go_enter Tryz.func140, Tryz.ntmps140
  go_wp2
  go_ret
  have h1 := Boxed.new w 193 (.pointer (some ⟨D, 0, none⟩))
  have h2 := Boxed.new (w.alloc (.cells #[.pointer (some ⟨D, 0, none⟩)] 193)) 3 (.int .i64 n)
  have h3 := Boxed.new ((w.alloc (.cells #[.pointer (some ⟨D, 0, none⟩)] 193)).alloc (.cells #[.int .i64 n] 3)) 148 (.func (.func K) #[] caps)
  simp only [World.size_alloc] at h2 h3
  exact ⟨rfl, by simp, h2.alloc _, h3, (h1.alloc _).alloc _, (((Below.refl _ _).alloc (Nat.le_refl _) _).alloc (by simp) _).alloc (by simp; omega) _⟩
/-- Between two rounds: the box of what was taken, and its row. -/
structure DecI (w : World) (B Bb N0 : Nat) (pre : List Nat) (W : World) : Prop where
  row : ∃ v, Boxed W Bb 22 v ∧ W.ownsRow N0 5 1 v pre.length (nvs pre)
  below : Below B w W
theorem DecI.turns {w A C : World} {B Bb N0 : Nat} {S : List Nat} {pre : List Nat} (h : DecI w B Bb N0 pre A) (hu : TurnsF N0 S A C) (hS : ∀ k ∈ S, B ≤ k ∧ k < N0) (hb : Bb ∉ S) (hN : B ≤ N0) (hB : B ≤ w.heap.size) : DecI w B Bb N0 pre C := by
  obtain ⟨⟨v, h1, h2⟩, h3⟩ := h
  exact ⟨⟨v, hu.blk (cs := [_]) h1 hb, hu.own h2 fun k hk => (hS k hk).2⟩, h3.trans (hu.below (fun k hk => (hS k hk).1) hN (Nat.le_trans hB h3.size))⟩
theorem nvs_snoc (l : List Nat) (c : Nat) : nvs (l ++ [c]) = nvs l ++ [.int .u8 (c : Int)] := by simp [nvs]
theorem nvs_u8s {l : List Nat} (h : ∀ c ∈ l, c < 256) : nvs l = bvs (u8s l) := by
  simp only [nvs, bvs, u8s, List.map_map]
  refine List.map_congr_left fun c hc => ?_
  have := h c hc
  simp [UInt8.toNat_ofNat']
  omega
/-- What a round of the loop over them leaves. -/
def keepBl (Bb N0 k : Nat) : Prop := k < N0 ∧ k ≠ Bb
theorem decI_more {w Wd w4 : World} {B Bb N0 c : Nat} {pre : List Nat} {v v' : Value} {tmp : Obj} (h1 : Boxed Wd Bb 22 v) (h2 : Wd.ownsRow N0 5 1 v pre.length (nvs pre)) (h3 : Below B w Wd) (hB : B ≤ Bb) (hN : Bb < N0) (hs : N0 ≤ Wd.heap.size)
    (hown : w4.ownsRow N0 5 1 v' (pre.length + 1) (nvs pre ++ [.int .u8 (c : Int)])) (hg : (Wd.alloc tmp).grownBy w4 v.ownBlock) :
    Boxed w4 Bb 22 v ∧ KeepsFrom N0 Wd (w4.setCell ⟨Bb, 0, none⟩ v') ∧ KeepsB (keepBl Bb N0) Wd (w4.setCell ⟨Bb, 0, none⟩ v') ∧ DecI w B Bb N0 (pre ++ [c]) (w4.setCell ⟨Bb, 0, none⟩ v') := by
  obtain ⟨a1, a2, a3, a4, a5⟩ := h1.appended (by decide) (own_more h2 (Nat.le_of_lt hN)) (by omega) (Nat.le_refl _) (own_more hown (Nat.le_of_lt hN)) hg
  have hrow := own_block h2
  refine ⟨a1, a4.from _, ⟨a4.size, fun k hk => ?_⟩, ⟨⟨v', a2, ?_⟩, h3.trans (a5.mono hB)⟩⟩
  · obtain ⟨k1, k2⟩ := hk
    refine (Below.heap_setCell _ _ _ _ k2).trans ((hg.block k (by simp; omega) fun e => ?_).trans (Below.heap_alloc _ _ _ (by omega)))
    have := hrow k e.symm
    omega
  · rw [List.length_append, List.length_singleton, nvs_snoc]
    exact hown.kept (grownBy_setCell' w4 Bb v') (.inr (a1.not_row (by decide) hown).symm)
set_option maxRecDepth 100000 in
set_option maxHeartbeats 8000000 in
theorem decoded_any {σ : Type} {V : Way σ} {K : Nat} {caps : Array Value} {S : List Nat} {own : Nat → Prop} {At : σ → World → Prop} (HJ : TakeJ V K caps S own At) (hE : Enters Tryz.prog K) {w : World} {B : Nat} {A : Option Addr} {M m N : Nat} {bs : List UInt8} {l X : List Nat} {s0 : σ} {dn : Nat}
    (hr : Rd w w.heap.size A (bvs bs)) (hM : bs.length = M) (hM1 : M ≤ 100000) (hN : l.length = N) (hN1 : N ≤ 1000) (hl : ∀ c ∈ l, c < 256) (hX : ∀ y ∈ X, y < 256) (hi : V.inv s0) (hat : At s0 w) (hown : ∀ k, own k → k < w.heap.size) (hS : ∀ k ∈ S, B ≤ k ∧ k < w.heap.size) (hB : B ≤ w.heap.size)
    (hdn : l ≠ [] → dn = if X = [] then 0 else 16) (hdd : dn = 0 ∨ dn = 16) (hg : GoodB V s0 l X dn [] 0 4294967295 (comesS 4 (0, bs.map UInt8.toNat, 0))) (hne : N ≠ 0 ∨ (N = 0 ∧ M ≠ 0)) :
    Calls Tryz.prog 91 #[.slice A M m, .int .i64 (N : Int), .func (.func K) #[] caps] w fun e w' => ∃ v, e = .returned (.tuple #[v, .int .i64 (dn : Int)]) ∧ IsBytes (if dn = 0 then u8s l else []) v w' ∧ Below B w w' := by
  obtain ⟨i0, hi0, hz0, hz1, hz2⟩ := info_parts info_u8r
  have CR := Lib.hid (decRead_any (m := m) bs hr hM (by omega))
  have HH := Lib.hid HJ
  have HE := Lib.hid hE
  have HN := Lib.hid hN
  have HN1 := Lib.hid (show l.length ≤ 1000 by rw [hN]; exact hN1)
  have HL := Lib.hid hl
  have HX := Lib.hid hX
  have HI := Lib.hid hi
  have HA := Lib.hid hat
  have HO := Lib.hid hown
  have HS := Lib.hid hS
  have HB := Lib.hid hB
  have HDN := Lib.hid hdn
  have HDD := Lib.hid hdd
  have HG := Lib.hid hg
  obtain ⟨nv, hnv⟩ : ∃ nv : Int, nv = (N : Int) := ⟨_, rfl⟩
  rw [← hnv]
  have t1 : ¬ (nv < 0) := by omega
  have t2 : ¬ ((67108864 : Int) < nv) := by omega
  have hne2 : (nv == 0) = false ∨ ((nv == 0) = true ∧ ¬ ((M : Int) = 0)) := by
    rcases hne with h | ⟨h1, h2⟩
    · exact .inl (by simp; omega)
    · exact .inr ⟨by simp; omega, by omega⟩
  have HNV := Lib.hid (show nv = (l.length : Int) by rw [hnv, hN])
  clear HN hnv hne HJ hE hr hM hM1 hN hN1 hl hX hi hat hown hS hB hdn hdd hg
  refine (callsIn_wide (n := 4)).1 ?_
  refine callsIn_of_wp_marks Tryz.func91 rfl trivial ?_ rfl
  simp only [Tryz.ntmps91, List.size_toArray, List.length_cons, List.length_nil, Nat.reduceAdd, Nat.reduceSub, Array.replicate_succ, Array.replicate_zero, List.push_toArray, List.append_toArray, List.nil_append, List.cons_append]
  rcases hne2 with hn | ⟨hn, hm⟩
  all_goals
    gi_wp2_with fail
    refine ⟨trivial, (callsIn_wide.2 CR.out).mono ?_⟩
    rintro e w1 ⟨D, rfl, hD, hd, hb1⟩
    have hb2 := (Boxed.new w1 22 (.slice none 0 0))
    have hbw2 : Below w1.heap.size w1 (w1.alloc (.cells #[.slice none 0 0] 22)) := (Below.refl _ _).alloc (Nat.le_refl _) _
    have hsz2 : (w1.alloc (.cells #[.slice none 0 0] 22)).heap.size = w1.heap.size + 1 := World.size_alloc _ _
    obtain ⟨w2, hw2⟩ : ∃ w2, w2 = w1.alloc (.cells #[.slice none 0 0] 22) := ⟨_, rfl⟩
    obtain ⟨Bb, hBb⟩ : ∃ Bb, Bb = w1.heap.size := ⟨_, rfl⟩
    rw [← hw2, ← hBb] at hb2
    rw [← hw2] at hbw2
    rw [← hw2, ← hBb] at hsz2
    have hDl := hd.lt
    rw [← hBb] at hDl
    have HD2 := Lib.hid (hd.below hbw2)
    have HB2 := Lib.hid (hb1.trans (hbw2.mono hb1.size))
    have HBX := Lib.hid hb2
    have HW := Lib.hid (And.intro hw2 hBb)
    have HSZ := Lib.hid (And.intro hsz2 (And.intro hDl (And.intro hD (show w.heap.size ≤ Bb by rw [hBb]; exact hb1.size))))
    clear hb2 hbw2 hsz2 hw2 hBb hDl hd hb1 hD CR
    gi_wp2_with fail
    simp only [← HW.out.1, ← HW.out.2]
    refine ⟨trivial, (callsIn_wide.2 (takenBl_any D K nv caps w2)).mono ?_⟩
    rintro e w3 ⟨rfl, hs3, hbn, hbt, hbd, hb3⟩
    have hbx3 : Boxed w3 Bb 22 (.slice none 0 0) := Blk.grow (cs := [_]) HBX.out hb3
    rw [HSZ.out.1] at hs3 hbn hbt hbd
    have hb03 := HB2.out.trans (hb3.mono HB2.out.size)
    have hz := HSZ.out
    have hsS := HS.out
    have h0 : TkSt V At s0 l X dn D D (Bb + 1 + 1) (Bb + 1 + 1 + 1) (Bb + 1) (.func (.func K) #[] caps) [] 0 4294967295 (comesS 4 (0, bs.map UInt8.toNat, 0)) w3 :=
      ⟨by rw [← HNV.out]; exact hbn, hbt, hbd, HH.out.kept HA.out (fun k hk => hb03.block k (HO.out k hk)), HD2.out.below hb3, HG.out⟩
    have hns : ∀ j, Bb + j ∉ D :: S := fun j hj => by
      rcases List.mem_cons.1 hj with hj | hj
      · omega
      · have := (hsS _ hj).2; omega
    have HHN := Lib.hid (taken1_hands HH.out HE.out 3 (by omega) (keep := keepBl Bb w3.heap.size) ⟨fun k hk => ⟨by omega, by omega⟩, fun k hk => by have := HO.out k hk; exact ⟨by omega, by omega⟩, ⟨by omega, by omega⟩, ⟨by omega, by omega⟩, ⟨by omega, by omega⟩⟩ ⟨hns 2, hns 3, hns 1⟩ HI.out HL.out HX.out (by have := HN1.out; omega) HDN.out h0)
    have HI0 := Lib.hid (⟨⟨_, hbx3, World.ownsRow_nil _ _ _ _⟩, hb03.mono HB.out⟩ : DecI w B Bb w3.heap.size [] w3)
    have HNS := Lib.hid (And.intro hs3 (And.intro (show Bb ∉ D :: S from hns 0) (show ∀ k ∈ D :: S, B ≤ k ∧ k < w3.heap.size from fun k hk => by
      have := HB.out
      rcases List.mem_cons.1 hk with rfl | hk
      · omega
      · have := hsS _ hk; omega)))
    have h4 : w2.heap.size = Bb + 1 := HSZ.out.1
    rw [h4]
    clear hs3 hbn hbt hbd hb3 hbx3 hb03 hz hsS h0 hns h4
    gi_wp2
    refine wpIn_range_both (by omega) (gf := 187) (lb := #[.pointer (some ⟨Bb + 1 + 1, 0, none⟩), .pointer (some ⟨Bb + 1 + 1 + 1, 0, none⟩), .pointer (some ⟨Bb + 1, 0, none⟩)]) rfl (enters_of Tryz.func187 (by kernel_rfl) rfl)
      HHN.out (fun k hk => hk.1) (fun k hk => (HNS.out.2.2 k hk).2) (fun _ => rfl) ?_
      (DecI w B Bb w3.heap.size) (fun s A C h hu => h.turns hu HNS.out.2.2 HNS.out.2.1 (by have := HNS.out.1; have := HSZ.out; have := HB.out; omega) HB.out) HI0.out ?_ ?_ ?_ ?_
    · rintro A C ⟨L, R, st, hd, he⟩ hu
      refine ⟨L, R, st, hd.kept fun k hk => ?_, he⟩
      have h1 := hd.lt
      rcases hu.block k (by omega) List.not_mem_nil with ⟨h2, -⟩ | e
      · have := HNS.out.1; have := HSZ.out; omega
      · exact e
    rotate_left
    · intro lq x Wd K hK
      gi_wp2
      exact hK
    · rintro lq pre c rest Wd hxs ⟨⟨v, hv, hrow⟩, hbw⟩ hsz
      obtain ⟨Av, cv, rfl, -, -, -⟩ := own_form hrow
      have hc := hv.cell
      have hpl : pre.length < 1000 := by
        have h1 := congrArg List.length hxs
        rw [List.length_append, List.length_cons] at h1
        have := HN1.out
        omega
      have HV := Lib.hid (And.intro hv (And.intro hrow (And.intro hbw hsz)))
      clear hv hbw hxs
      gi_wp2_with (gi_at_builtin; refine wpListIn_append_own _ rfl _ _ 22 rfl w3.heap.size 5 i0 (.int .u8 0) 1 1 Tryz.underlying22 hi0 hz0 hz1 hz2 rfl (by decide) _ pre.length (nvs pre) rfl (hrow.alloc _) ⟨Wd.heap.size, 0, none⟩ 1 1 [.int .u8 (c : Int)] rfl rfl (cell_one_new _ _ _) (by simp [Value.oneCell']) (by simp only [maxLen]; omega) (by omega) (by simp; omega) ?_; intro v4 w4 hown4 hg4 _; obtain ⟨A4, c4, rfl, -, -, -⟩ := own_form hown4; obtain ⟨a1, a2, a3, a4⟩ := decI_more HV.out.1 HV.out.2.1 HV.out.2.2.1 (by have := HSZ.out; have := HB.out; omega) (by have := HNS.out.1; omega) HV.out.2.2.2 hown4 hg4; have hc4 := a1.cell; have hf4 := a1.frozen; have HR4 := Lib.hid (And.intro a2 (And.intro a3 a4)); clear hown4 hg4 a1 a2 a3 a4)
      exact HR4.out
    · rintro D' Wd hD' ⟨⟨v, hv, hrow⟩, hbw⟩ ⟨L, R, st, hd, he⟩ hK
      have CD := decDone_any hd
      rw [he] at CD
      obtain ⟨Av, cv, rfl, -, -, -⟩ := own_form hrow
      have hc := hv.cell
      have hDw : w.heap.size ≤ D' := by have := HNS.out.1; have := HSZ.out; omega
      have HF := Lib.hid (hbw.trans (belowK_b (w := w) HB.out Wd D' _ (.deferred none) hDw hK rfl rfl))
      have hrw := ownsRow_putObj hrow (.deferred none) hK rfl
      have hll : l.length = (u8s l).length := (u8s_length l).symm
      rw [nvs_u8s HL.out, hll] at hrw
      have hbs := IsBytes.of_own hrw
      rw [u8s_length] at hbs
      have HRW := Lib.hid hbs
      have HK := Lib.hid hK
      clear hv hbw hd he hrow hK hll hrw hbs
      rcases HDD.out with rfl | rfl
      · have cd : Calls Tryz.prog 141 #[.pointer (some ⟨D, 0, none⟩)] Wd fun e w' => e = .returned (.int .i64 0) ∧ w' = Wd := CD
        have CD0 := Lib.hid cd
        clear CD cd
        gi_wp2_with fail
        refine ⟨trivial, (callsIn_wide.2 CD0.out).mono ?_⟩
        rintro e w' ⟨rfl, hw⟩
        obtain rfl : _ = w' := hw.symm
        gi_wp2
        refine ⟨by simp, .inl ⟨_, _, rfl, run_takeDeferred HK.out, ?_⟩⟩
        refine ⟨_, results_tmp2 rfl _ _ _, ?_⟩
        exact ⟨_, rfl, HRW.out, HF.out⟩
      · have cd : Calls Tryz.prog 141 #[.pointer (some ⟨D, 0, none⟩)] Wd fun e w' => e = .returned (.int .i64 16) ∧ w' = Wd := CD
        have CD0 := Lib.hid cd
        clear CD cd
        gi_wp2_with fail
        refine ⟨trivial, (callsIn_wide.2 CD0.out).mono ?_⟩
        rintro e w' ⟨rfl, hw⟩
        obtain rfl : _ = w' := hw.symm
        gi_wp2
        refine ⟨by simp, .inl ⟨_, _, rfl, run_takeDeferred HK.out, ?_⟩⟩
        refine ⟨_, results_tmp2 rfl _ _ _, ?_⟩
        exact ⟨_, rfl, nilBytes _, HF.out⟩
end Go.Proofs.YtflcmmeoppdhdaaGreat
namespace Go.Proofs.YtflcmmeoppdhdaaGreat
open Go.RowKit Go.Sort Go.Shelf

/-- What stands behind k bits of a byte. -/
structure TakRel (w wr : World) (D Kd Bm : Nat) (a : ModA) (s : ModD) (rest : List RcPart) (X : List Nat) (c k L R : Nat) (T : List Nat) : Prop where
  at_ : BitsAt Bm a (runK s c k) wr
  d : DecAt wr D Kd L R (restS T X)
  laid : Laid L R ((bitsP s c 8).drop k ++ rest) T
  span : InSpan L R ∧ 65536 ≤ R
  on : OnlyS (D :: a.all) w wr
set_option maxHeartbeats 4000000 in
set_option maxRecDepth 100000 in
theorem takeBits1_any {w : World} {D Kd Bm L R c : Nat} {a : ModA} {s : ModD} {rest : List RcPart} {T X : List Nat} (hc : c < 256) (hat : BitsAt Bm a s w) (hd : DecAt w D Kd L R (restS T X)) (hla : Laid L R (bitsP s c 8 ++ rest) T) (hsp : InSpan L R) (hR : 65536 ≤ R) (hps : ∀ p ∈ bitsP s c 8 ++ rest, p.ok) (hX : ∀ y ∈ X, y < 256) :
    Calls Tryz.prog 152 #[.pointer (some ⟨D, 0, none⟩), .pointer (some ⟨Bm, 0, none⟩)] w fun e w' => e = .returned (.int .u8 (c : Int)) ∧ ∃ L' R' T', Laid L' R' rest T' ∧ InSpan L' R' ∧ 65536 ≤ R' ∧ BitsAt Bm a (runK s c 8) w' ∧ DecAt w' D Kd L' R' (restS T' X) ∧ OnlyS (D :: a.all) w w' := by
  have HX := Lib.hid hX
  have HPS := Lib.hid hps
  have H0 := Lib.hid (⟨hat, hd, hla, ⟨hsp, hR⟩, OnlyS.refl _ _⟩ : TakRel w w D Kd Bm a s rest X c 0 L R T)
  have H80 := Lib.hid (highK_zero hc)
  clear hat hd hla hsp hR hps hX
  go_enter Tryz.func152, Tryz.ntmps152
  go_wp2
  go_loopw [4, 7] (fun ci i wr => ∃ (k L R q : Nat) (T : List Nat), k ≤ 8 ∧ i = .int .i64 (k : Int) ∧ ci = .int .i64 (q : Int) ∧ q = highK c k ∧ TakRel w wr D Kd Bm a s rest X c k L R T) (fun _ i _ => 8 - (intOf i).toNat)
  case atStart => exact ⟨0, L, R, 0, T, Nat.zero_le _, rfl, rfl, H80.out.symm, H0.out⟩
  case round =>
    clear H0 H80
    obtain ⟨k, L, R, q, T, hk, rfl, rfl, hq, hrel⟩ := hrel
    have HR := Lib.hid hrel
    have hbox := hrel.at_.box.cell
    have hq256 : q < 256 := by rw [hq]; exact highK_lt hc k
    clear hrel
    by_cases hlt : k < 8
    · have hki : (k : Int) < 8 := by omega
      have hb2 := bitD_lt c k
      have hqn := highK_next (c := c) hlt
      rw [← hq] at hqn
      clear hq
      obtain ⟨b, hb⟩ : ∃ b, b = bitD c k := ⟨_, rfl⟩
      rw [← hb] at hb2 hqn
      have CP := Lib.hid (modP_any HR.out.at_.m)
      have CQ := Lib.hid (fun W => part_any (runK s c k) b W)
      have hch := (runK s c k).chance_ok
      have hdr := bitsP_drop s c hlt
      rw [← hb] at hdr
      have hla := HR.out.laid
      rw [hdr, List.cons_append] at hla
      obtain ⟨n, L', R', T', hla2, hi2, hR2, hlo, hhi, CF, CT⟩ := back_more (X := X) hla HR.out.span.1 HR.out.span.2 (fun p hp => by
        rcases List.mem_cons.1 hp with rfl | hp
        · exact bitP_ok _ _
        · rcases List.mem_append.1 hp with hp | hp
          · exact HPS.out p (List.mem_append_left _ (List.mem_of_mem_drop hp))
          · exact HPS.out p (List.mem_append_right _ hp)) HX.out
      have hseen : runK s c (k + 1) = (runK s c k).seen (b : Int) := by rw [hb]; rfl
      have htot : (bitP (runK s c k) b).total = 65536 := by unfold bitP; split <;> rfl
      rw [htot] at CF CT
      have hpart : (b = 1 → (n : Int) < (runK s c k).chance) ∧ (b = 0 → ¬ ((n : Int) < (runK s c k).chance)) := by
        refine ⟨fun e => ?_, fun e => ?_⟩
        · rw [e] at hhi; unfold bitP at hhi; rw [if_neg (by decide)] at hhi; dsimp only at hhi; omega
        · rw [e] at hlo; unfold bitP at hlo; rw [if_pos rfl] at hlo; dsimp only at hlo; omega
      have HSEEN := Lib.hid hseen
      have HN2 := Lib.hid (And.intro hla2 (And.intro hi2 hR2))
      clear hb hdr hla hla2 hi2 hR2 hlo hhi hseen
      obtain ⟨⟨lo, sz, tot⟩, hp⟩ : ∃ p, p = bitP (runK s c k) b := ⟨_, rfl⟩
      rw [← hp] at CQ CT htot
      dsimp only at CQ CT htot
      subst htot
      obtain ⟨p, hpp⟩ : ∃ p, p = (runK s c k).chance := ⟨_, rfl⟩
      rw [← hpp] at CP CQ hpart hch
      have CF1 := Lib.hid CF
      have CT1 := Lib.hid CT
      have HQN := Lib.hid hqn
      clear hp hpp CF CT hch hqn
      go_wp2_with fail
      refine CP.out.mono ?_
      rintro e w1 ⟨rfl, hb1⟩
      have HD1 := Lib.hid (HR.out.d.below hb1)
      have HA1 := Lib.hid (HR.out.at_.grow hb1)
      have HB1 := Lib.hid (HR.out.on.trans (OnlyS.of_below hb1))
      clear hbox hb1 CP
      go_wp2_with fail
      refine (CF1.out _ _ _ HD1.out).mono ?_
      rintro e w2 ⟨rfl, hd2, ht2⟩
      have hu2 := HD1.out.turnedT ht2
      have HD2 := Lib.hid hd2
      have HA2 := Lib.hid (HA1.out.onlyT hu2 (by decide) (by decide) (by decide) (by decide) (by decide))
      have HB2 := Lib.hid (HB1.out.trans (OnlyS.of_turns ht2 (by simp)))
      clear hd2 ht2 hu2 CF1 HD1 HA1 HB1
      rcases (by omega : b = 0 ∨ b = 1) with rfl | rfl
      · have hnp := hpart.2 rfl
        clear hpart hb2
        rw [show ((0 : Nat) : Int) = 0 from rfl] at CQ HSEEN
        have CQ1 := Lib.hid (fun W => CQ.out W)
        have hqq : ((highK c (k + 1) : Nat) : Int) = (q : Int) * 2 := by have := HQN.out; omega
        have hq2 : q * 2 < 256 := by have := HQN.out; have := highK_lt hc (k + 1); omega
        have HQQ := Lib.hid hqq
        clear CQ hqq
        go_wp2_with fail
        refine (CQ1.out _).mono ?_
        rintro e w' ⟨rfl, hw⟩
        obtain rfl : _ = w' := hw.symm
        go_wp2_with fail
        refine (CT1.out _ _ _ HD2.out).mono ?_
        rintro e w3 ⟨rfl, hd3, ht3⟩
        have hu3 := HD2.out.turnedT ht3
        have ha3 := HA2.out.onlyT hu3 (by decide) (by decide) (by decide) (by decide) (by decide)
        have CS := Lib.hid (modSeen_any 0 ha3.m)
        have hbox := ha3.box.cell
        have HD3 := Lib.hid hd3
        have HA3 := Lib.hid ha3
        have HB3 := Lib.hid (HB2.out.trans (OnlyS.of_turns ht3 (by simp)))
        clear hd3 ht3 hu3 ha3 CT1 CQ1 HD2 HA2 HB2
        go_wp2_with fail
        refine CS.out.mono ?_
        rintro e w4 ⟨⟨u, rfl⟩, hm4, hu4⟩
        have ht4 := HA3.out.m.turned (B := 0) hu4 (fun _ _ => Nat.zero_le _)
        have HN := Lib.hid (⟨by rw [HSEEN.out]; exact HA3.out.next hm4 ht4, HD3.out.onlyS hu4 HA3.out.m.nob, HN2.out.1, HN2.out.2, HB3.out.trans (hu4.mono fun g hg => by simp [hg])⟩ : TakRel w w4 D Kd Bm a s rest X c (k + 1) L' R' T')
        clear hm4 hu4 ht4 hbox CS HD3 HA3 HB3
        go_wp2
        go_roundw
        case rel => exact ⟨k + 1, L', R', highK c (k + 1), T', by omega, by go_num, by rw [HQQ.out], rfl, HN.out⟩
        case measure => simp [intOf]; omega
      · have hnp := hpart.1 rfl
        clear hpart hb2
        rw [show ((1 : Nat) : Int) = 1 from rfl] at CQ HSEEN
        have CQ1 := Lib.hid (fun W => CQ.out W)
        have hqq : ((highK c (k + 1) : Nat) : Int) = (q : Int) * 2 + 1 := by have := HQN.out; omega
        have hq2 : q * 2 + 1 < 256 := by have := HQN.out; have := highK_lt hc (k + 1); omega
        have HQQ := Lib.hid hqq
        clear CQ hqq
        go_wp2_with fail
        refine (CQ1.out _).mono ?_
        rintro e w' ⟨rfl, hw⟩
        obtain rfl : _ = w' := hw.symm
        go_wp2_with fail
        refine (CT1.out _ _ _ HD2.out).mono ?_
        rintro e w3 ⟨rfl, hd3, ht3⟩
        have hu3 := HD2.out.turnedT ht3
        have ha3 := HA2.out.onlyT hu3 (by decide) (by decide) (by decide) (by decide) (by decide)
        have CS := Lib.hid (modSeen_any 1 ha3.m)
        have hbox := ha3.box.cell
        have HD3 := Lib.hid hd3
        have HA3 := Lib.hid ha3
        have HB3 := Lib.hid (HB2.out.trans (OnlyS.of_turns ht3 (by simp)))
        clear hd3 ht3 hu3 ha3 CT1 CQ1 HD2 HA2 HB2
        go_wp2_with fail
        refine CS.out.mono ?_
        rintro e w4 ⟨⟨u, rfl⟩, hm4, hu4⟩
        have ht4 := HA3.out.m.turned (B := 0) hu4 (fun _ _ => Nat.zero_le _)
        have HN := Lib.hid (⟨by rw [HSEEN.out]; exact HA3.out.next hm4 ht4, HD3.out.onlyS hu4 HA3.out.m.nob, HN2.out.1, HN2.out.2, HB3.out.trans (hu4.mono fun g hg => by simp [hg])⟩ : TakRel w w4 D Kd Bm a s rest X c (k + 1) L' R' T')
        clear hm4 hu4 ht4 hbox CS HD3 HA3 HB3
        go_wp2
        go_roundw
        case rel => exact ⟨k + 1, L', R', highK c (k + 1), T', by omega, by go_num, by rw [HQQ.out], rfl, HN.out⟩
        case measure => simp [intOf]; omega
    · obtain rfl : k = 8 := by omega
      have hla := HR.out.laid
      rw [List.drop_of_length_le (by rw [bitsP_len]; exact Nat.le_refl _), List.nil_append] at hla
      rw [highK_eight] at hq
      subst hq
      have HLA := Lib.hid hla
      have hw8 : IntKind.u8.wrap (q : Int) = (q : Int) := by rw [IntKind.wrap_u8]; omega
      clear hla
      go_wp2
      go_ret
      exact ⟨rfl, L, R, T, HLA.out, HR.out.span.1, HR.out.span.2, HR.out.at_, HR.out.d, HR.out.on⟩
end Go.Proofs.YtflcmmeoppdhdaaGreat
namespace Go.Proofs.YtflcmmeoppdhdaaGreat
open Go.RowKit Go.Sort Go.Shelf

set_option maxHeartbeats 4000000 in
set_option maxRecDepth 100000 in
theorem takeLetter1_any {w : World} {D Kd Bm F T S L R k : Nat} {c : List Int} {rest : List RcPart} {Q X : List Nat} (hi : InvF c) (hk : k < 256) (hat : LetAt Bm F T S c w) (hd : DecAt w D Kd L R (restS Q X)) (hla : Laid L R ([letP c k] ++ rest) Q) (hsp : InSpan L R) (hR : 65536 ≤ R) (hps : ∀ p ∈ [letP c k] ++ rest, p.ok) (hX : ∀ y ∈ X, y < 256) :
    Calls Tryz.prog 142 #[.pointer (some ⟨D, 0, none⟩), .pointer (some ⟨Bm, 0, none⟩)] w fun e w' => e = .returned (.int .u8 (k : Int)) ∧ ∃ L' R' Q', Laid L' R' rest Q' ∧ InSpan L' R' ∧ 65536 ≤ R' ∧ LetAt Bm F T S (letNext c k) w' ∧ DecAt w' D Kd L' R' (restS Q' X) ∧ OnlyS (D :: [T, S]) w w' := by
  have hk' : k < c.length := by rw [hi.1.1]; exact hk
  obtain ⟨v1, v2, v3, v4, v5, v6, v7⟩ := letP_vals hi hk
  obtain ⟨n, L', R', Q', hla2, hi2, hR2, hlo, hhi, CF, CT⟩ := back_more (X := X) hla hsp hR hps hX
  have hfind : fFind c (n : Int) = some k := fFind_some (fun x hx => Int.le_trans (by decide) (hi.1.2 x hx)) (by omega) hk' (by omega) (by rw [v7]; omega)
  have HI := Lib.hid hi
  have HA := Lib.hid hat
  have HD := Lib.hid hd
  have CO := Lib.hid (fun (W : World) (h : LetAt Bm F T S c W) => freqOf_at k h.f hk')
  have CX := Lib.hid (fun (W : World) (h : LetAt Bm F T S c W) => freqFind_any (n : Int) h.f)
  rw [hfind] at CX
  rw [← getD_at hk', ← v1, ← v2] at CO
  have CN := Lib.hid (freqTotal_any hat.f)
  rw [← v3] at CN
  have HN2 := Lib.hid (And.intro hla2 (And.intro hi2 hR2))
  have hbox := hat.box.cell
  have hkw : IntKind.u8.wrap (k : Int) = (k : Int) := by rw [IntKind.wrap_u8]; omega
  clear hk' v1 v2 v3 v4 v5 v6 v7 hla2 hi2 hR2 hlo hhi hfind hat hd hla hsp hR hps hX hi
  obtain ⟨⟨lo, sz, tot⟩, hp⟩ : ∃ p, p = letP c k := ⟨_, rfl⟩
  rw [← hp] at CF CT CO CN
  dsimp only at CF CT CO CN
  have CF1 := Lib.hid CF
  have CT1 := Lib.hid CT
  clear hp CF CT
  simp only [findV] at CX
  go_enter Tryz.func142, Tryz.ntmps142
  go_wp2_with fail
  refine CN.out.mono ?_
  rintro e w' ⟨rfl, hw⟩
  obtain rfl : _ = w' := hw.symm
  clear CN
  go_wp2
  have HAD := Lib.hid (show LetAt Bm F T S c w.drew from ⟨HA.out.box, ⟨HA.out.f.fb.same rfl, HA.out.f.tree.same rfl⟩⟩)
  have HDD := Lib.hid HD.out.drew_
  go_region_with (first
    | (go_at_call 144; refine (CF1.out _ _ _ HDD.out).mono ?_; rintro e w2 ⟨rfl, hd2, ht2⟩; have hu2 := HDD.out.turnedT ht2; have ha2 := HAD.out.onlyT hu2 (by decide) (by decide) (by decide) (by decide); have hbox := ha2.box.cell; have HD2 := Lib.hid hd2; have HA2 := Lib.hid ha2; have HB2 := Lib.hid (OnlyS.of_turns ht2 (S := D :: [T, S]) (by simp)); clear hd2 ht2 hu2 ha2)
    | (go_at_call 143; refine (CX.out _ HA2.out).mono ?_; rintro e w' ⟨rfl, hw⟩; obtain rfl : _ = w' := hw.symm))
  all_goals
    clear CX CF1 HAD HDD
    go_wp2_with fail
    refine (CO.out _ HA2.out).mono ?_
    rintro e w3 ⟨rfl, hb3⟩
    have HA3 := Lib.hid (HA2.out.grow hb3)
    have HD3 := Lib.hid (HD2.out.below hb3)
    have HB3 := Lib.hid ((OnlyS.refl _ _).drew.trans (HB2.out.trans (OnlyS.of_below hb3)))
    clear hb3 hbox CO HA2 HD2 HB2
    go_wp2_with fail
    refine (CT1.out _ _ _ HD3.out).mono ?_
    rintro e w4 ⟨rfl, hd4, ht4⟩
    have hu4 := HD3.out.turnedT ht4
    have ha4 := HA3.out.onlyT hu4 (by decide) (by decide) (by decide) (by decide)
    have hbox := ha4.box.cell
    have CS := Lib.hid (letSeen_any ha4.f HI.out hk)
    have HD4 := Lib.hid hd4
    have HA4 := Lib.hid ha4
    have HB4 := Lib.hid (HB3.out.trans (OnlyS.of_turns ht4 (by simp)))
    clear hd4 ht4 hu4 ha4 CT1 HD3 HA3 HB3
    go_wp2_with fail
    refine CS.out.mono ?_
    rintro e w5 ⟨rfl, hm5, hu5⟩
    have ht5 := HA4.out.f.turned (B := 0) hu5 ⟨Nat.zero_le _, Nat.zero_le _⟩
    have hs5 : OnlyS [T, S] w4 w5 := ⟨hu5.os, hu5.tape, hu5.output, hu5.size, fun k hk h1 => hu5.block k hk (fun e => h1 (by simp [e])) (fun e => h1 (by simp [e]))⟩
    have HN := Lib.hid (And.intro (HA4.out.next hm5 ht5) (And.intro (HD4.out.onlyS hs5 HA4.out.f.nob) (HB4.out.trans (hs5.mono fun g hg => List.mem_cons_of_mem _ hg))))
    clear hm5 hu5 ht5 hs5 hbox CS HD4 HA4 HB4
    go_wp2
    go_ret
    exact ⟨rfl, L', R', Q', HN2.out.1, HN2.out.2.1, HN2.out.2.2, HN.out.1, HN.out.2.1, HN.out.2.2⟩
end Go.Proofs.YtflcmmeoppdhdaaGreat
