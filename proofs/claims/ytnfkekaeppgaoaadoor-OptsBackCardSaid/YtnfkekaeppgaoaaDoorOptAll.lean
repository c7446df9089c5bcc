/- Layer 28: the program: readAll, Check, First, Read. -/
import Derived.Test.YtnfkekaeppgaoaaDoorOptPair
import Derived.Test.YtnfkekaeppgaoaaDoorRegionN
namespace Go.Proofs.YtnfkekaeppgaoaaDoor
open Go.RowKit Go.Sort

theorem alloc_setBlk (w : World) (o o' : Obj) : ({ w.alloc o with heap := (w.alloc o).heap.setIfInBounds w.heap.size o' } : World) = w.alloc o' := by
  have e : (w.alloc o).heap.setIfInBounds w.heap.size o' = w.heap.push o' := by
    show (w.heap.push o).setIfInBounds w.heap.size o' = _
    apply Array.ext'
    simp [Array.toList_push]
  rw [e]
  rfl
def seen0 : List Bool := [false, false, false, false]
/-- The key that operation i of the map's region lays. -/
def mrJ : Nat → Option Nat
  | 4 => some 0
  | 8 => some 1
  | 12 => some 2
  | 16 => some 3
  | _ => none
theorem mrJ_lt {i k : Nat} (h : mrJ i = some k) : k < 4 ∧ i = 4 * k + 4 := by
  unfold mrJ at h
  split at h <;> first | (cases h; exact ⟨by decide, rfl⟩) | cases h
def MapIn (w : World) (B O : Nat) : Prop := ∃ (es : List MapEntry) (c : Nat), w.heap[B]? = some (.map es.toArray c) ∧ (∀ e ∈ es, ∃ k, IsEnt O e k) ∧ es.Pairwise (fun x y => x.key ≠ y.key)
def HasK (w : World) (B k : Nat) : Prop := ∃ (es : List MapEntry) (c : Nat), w.heap[B]? = some (.map es.toArray c) ∧ ∃ e ∈ es, e.key = keyV k
def LackK (w : World) (B k : Nat) : Prop := ∀ (es : List MapEntry) (c : Nat), w.heap[B]? = some (.map es.toArray c) → ∀ e ∈ es, e.key ≠ keyV k
def mrG (B O : Nat) (W w : World) : Prop := Below B W w ∧ B ≤ w.heap.size ∧ (w.heap.size = B ∨ MapIn w B O)
def mrF (B O : Nat) (i : Nat) (v : Value) (w : World) : Prop :=
  match mrJ i with
  | some k => HasK w B k
  | none => if i = 0 ∨ i = 17 ∨ i = 18 then v = .map (some B) ∧ MapIn w B O else v = .pointer (some ⟨O, if i = 7 then 1 else if i = 11 then 2 else if i = 15 then 3 else 0, none⟩)
def mrE (B : Nat) (i : Nat) (w : World) : Prop :=
  match mrJ i with
  | some k => LackK w B k
  | none => i = 0 → w.heap.size = B
def Puts (B O k : Nat) (w w' : World) : Prop := LackK w B k ∧ ∃ (es : List MapEntry) (c : Nat), w.heap[B]? = some (.map es.toArray c) ∧ w' = { w with heap := w.heap.setIfInBounds B (.map (es ++ [(⟨keyV k, placeV O k, c⟩ : MapEntry)]).toArray (c + 1)) }
def mrR (B O : Nat) (i : Nat) (w w' : World) : Prop :=
  match mrJ i with
  | some k => Puts B O k w w'
  | none => if i = 0 then w.heap.size = B ∧ w' = w.alloc (.map #[] 0) else w' = w
theorem MapIn.alloc {w : World} {B O : Nat} (h : MapIn w B O) (o : Obj) : MapIn (w.alloc o) B O := by
  obtain ⟨es, c, h, r⟩ := h
  exact ⟨es, c, (Below.heap_alloc w o B (Array.getElem?_eq_some_iff.1 h).1).trans h, r⟩
theorem HasK.alloc {w : World} {B k : Nat} (h : HasK w B k) (o : Obj) : HasK (w.alloc o) B k := by
  obtain ⟨es, c, h, r⟩ := h
  exact ⟨es, c, (Below.heap_alloc w o B (Array.getElem?_eq_some_iff.1 h).1).trans h, r⟩
theorem Puts.at {w w' : World} {B O k : Nat} (h : Puts B O k w w') : ∃ (es : List MapEntry) (c : Nat), w.heap[B]? = some (.map es.toArray c) ∧ w'.heap[B]? = some (.map (es ++ [(⟨keyV k, placeV O k, c⟩ : MapEntry)]).toArray (c + 1)) ∧ ∀ e ∈ es, e.key ≠ keyV k := by
  obtain ⟨h0, es, c, h1, rfl⟩ := h
  exact ⟨es, c, h1, (MapKept.heap_set h1).1, h0 es c h1⟩
theorem map_inj {es es' : List MapEntry} {c c' : Nat} {o : Option Obj} (h : o = some (.map es.toArray c)) (h' : o = some (.map es'.toArray c')) : es = es' := by
  rw [h] at h'
  injection h' with h'
  injection h' with h1 h2
  have := congrArg Array.toList h1
  simpa using this
theorem MapIn.puts {w w' : World} {B O k : Nat} (h : MapIn w B O) (hp : Puts B O k w w') (hk : k < 4) : MapIn w' B O := by
  obtain ⟨es, c, h1, h2, h3⟩ := hp.at
  obtain ⟨es', c', h4, h5, h6⟩ := h
  obtain rfl := map_inj h1 h4
  refine ⟨_, _, h2, ?_, ?_⟩
  · intro e he
    rcases List.mem_append.1 he with he | he
    · exact h5 e he
    · obtain rfl := List.mem_singleton.1 he
      exact ⟨k, hk, rfl, rfl⟩
  · rw [List.pairwise_append]
    refine ⟨h6, List.pairwise_singleton _ _, fun a ha b hb => ?_⟩
    obtain rfl := List.mem_singleton.1 hb
    exact h3 a ha
theorem HasK.puts {w w' : World} {B O k j : Nat} (h : HasK w B j) (hp : Puts B O k w w') : HasK w' B j := by
  obtain ⟨es, c, h1, h2, -⟩ := hp.at
  obtain ⟨es', c', h4, e, he, hk⟩ := h
  obtain rfl := map_inj h1 h4
  exact ⟨_, _, h2, e, List.mem_append_left _ he, hk⟩
theorem Puts.has {w w' : World} {B O k : Nat} (hp : Puts B O k w w') : HasK w' B k := by
  obtain ⟨es, c, -, h2, -⟩ := hp.at
  exact ⟨_, _, h2, _, List.mem_append_right _ (List.mem_singleton.2 rfl), rfl⟩
theorem LackK.puts {w w' : World} {B O k j : Nat} (h : LackK w B j) (hp : Puts B O k w w') (hk : k < 4) (hj : j < 4) (hne : j ≠ k) : LackK w' B j := by
  obtain ⟨es, c, h1, h2, -⟩ := hp.at
  intro es' c' h' e he
  obtain rfl := map_inj h2 h'
  rcases List.mem_append.1 he with he | he
  · exact h es c h1 e he
  · obtain rfl := List.mem_singleton.1 he
    exact fun x => hne (keyV_one hk hj x).symm
theorem Puts.size {w w' : World} {B O k : Nat} (hp : Puts B O k w w') : w'.heap.size = w.heap.size := by
  obtain ⟨-, es, c, -, rfl⟩ := hp
  simp
theorem mrF_keeps {B O : Nat} (j k : Nat) (v : Value) (w w' : World) (_ : j ≠ k) (hR : mrR B O k w w') (hF : mrF B O j v w) : mrF B O j v w' := by
  unfold mrR at hR
  unfold mrF at hF ⊢
  cases hk : mrJ k with
  | none =>
    rw [hk] at hR
    simp only at hR
    split at hR
    · obtain ⟨-, rfl⟩ := hR
      split at hF
      · exact hF.alloc _
      · split at hF
        · rename_i h; rw [if_pos h]; exact ⟨hF.1, hF.2.alloc _⟩
        · rename_i h; rw [if_neg h]; exact hF
    · rw [hR]; exact hF
  | some i =>
    rw [hk] at hR
    simp only at hR
    split at hF
    · exact hF.puts hR
    · split at hF
      · rename_i h; rw [if_pos h]; exact ⟨hF.1, hF.2.puts hR (mrJ_lt hk).1⟩
      · rename_i h; rw [if_neg h]; exact hF
theorem mrE_keeps {B O : Nat} (j k : Nat) (w w' : World) (hjk : j ≠ k) (hR : mrR B O k w w') (hE : mrE B j w) : mrE B j w' := by
  unfold mrR at hR
  unfold mrE at hE ⊢
  cases hk : mrJ k with
  | none =>
    rw [hk] at hR
    simp only at hR
    split at hR
    · obtain ⟨hs, rfl⟩ := hR
      split at hE
      · intro es c h e he
        have h0 : (w.alloc (.map #[] 0)).heap[w.heap.size]? = some (.map ([] : List MapEntry).toArray 0) := (MapKept.heap_alloc w _).1
        rw [hs] at h0
        obtain rfl := map_inj h0 h
        cases he
      · intro h0
        omega
    · rw [hR]; exact hE
  | some i =>
    rw [hk] at hR
    simp only at hR
    split at hE
    · rename_i i' hj
      exact hE.puts hR (mrJ_lt hk).1 (mrJ_lt hj).1 (fun e => hjk (by rw [(mrJ_lt hk).2, (mrJ_lt hj).2, e]))
    · intro h0
      rw [hR.size]
      exact hE h0
theorem mrG_keeps {B O : Nat} {W : World} (k : Nat) (w w' : World) (hG : mrG B O W w) (hR : mrR B O k w w') : mrG B O W w' := by
  unfold mrR at hR
  obtain ⟨h1, h2, h3⟩ := hG
  cases hk : mrJ k with
  | none =>
    rw [hk] at hR
    simp only at hR
    split at hR
    · obtain ⟨hs, rfl⟩ := hR
      refine ⟨h1.alloc h2 _, by simp; omega, .inr ⟨[], 0, ?_, ?_, List.Pairwise.nil⟩⟩
      · have h0 : (w.alloc (.map #[] 0)).heap[w.heap.size]? = some (.map ([] : List MapEntry).toArray 0) := (MapKept.heap_alloc w _).1
        rwa [hs] at h0
      · intro e he; cases he
    · rw [hR]; exact ⟨h1, h2, h3⟩
  | some i =>
    rw [hk] at hR
    simp only at hR
    refine ⟨?_, by rw [hR.size]; exact h2, ?_⟩
    · obtain ⟨-, es, c, -, rfl⟩ := hR
      exact h1.trans (below_setBlk w _ (Nat.le_refl _))
    · rcases h3 with h3 | h3
      · exfalso
        obtain ⟨-, es, c, hb, -⟩ := hR
        have := (Array.getElem?_eq_some_iff.1 hb).1
        omega
      · exact .inr (h3.puts hR (mrJ_lt hk).1)
/-- One key laid. -/
theorem put_place {w : World} {B O k : Nat} (hM : MapIn w B O) (hL : LackK w B k) :
    ∃ w', (Instr.mapUpdate 44 (.map (some B)) (keyV k) (placeV O k)).run Tryd.prog w = .ok () w' ∧ Puts B O k w w' := by
  obtain ⟨es, c, hb, hall, -⟩ := hM
  refine ⟨_, run_sput w _ _ _ Tryd.underlying44 Tryd.underlying9 B _ c hb (strA (keyN k)) (placeV O k) ?_, hL, es, c, hb, ?_⟩
  · exact find_no hall (hL es c hb)
  · rw [List.push_toArray]
    rfl
theorem mr_undef {B O : Nat} {ops : Array Oper} (h : ((List.range ops.size).all fun k => ((ops[k]?).bind (·.dst)).isSome || (mrJ k).isSome) = true) (k : Nat) (o : Oper) (v : Value) (w : World) (hk : ops[k]? = some o) (hd : o.dst = none) (hF : mrF B O k v w) : mrF B O k undef w := by
  have h1 := List.all_eq_true.1 h k (List.mem_range.2 (Array.getElem?_eq_some_iff.1 hk).1)
  simp only [hk, Option.bind_some, hd, Option.isSome_none, Bool.false_or] at h1
  unfold mrF at hF ⊢
  cases hj : mrJ k with
  | none => rw [hj] at h1; cases h1
  | some i => rw [hj] at hF; exact hF
/-- What holds at the head of a round of readAll. -/
def AllP (S : ByteArray) (l : List UInt8) (n O B I : Nat) (st0 : List Int × List Bool) (fv : Value) (wr W : World) : Prop :=
  ∃ (p f : Nat) (st : List Int × List Bool), p ≤ n ∧ f ≤ p ∧ wr.heap[I]? = some (.stringIter S p) ∧ fv = .int .i64 (f : Int) ∧ Free 32 l f p ∧ MapP wr B O st.2 ∧ Blk wr O 23 (optC st.1) ∧ st.1.length = 4 ∧ st.2.length = 4 ∧
    pairsR (cutL 32 l) st0 = pairsR (cutL 32 (l.drop f)) st ∧ Below O W wr
/-- What readAll does. -/
def AllPost (W : World) (O : Nat) (r : Option (List Int × List Bool)) (e : Ending) (w' : World) : Prop :=
  (∃ ok : Bool, e = .returned (.bool ok) ∧ (ok = false → r = none) ∧ (ok = true → ∃ st, r = some st ∧ Blk w' O 23 (optC st.1) ∧ st.1.length = 4)) ∧ Below O W w'
theorem pairR_len {o o' : List Int} {s s' : List Bool} {x : List UInt8} (h : pairR (o, s) x = some (o', s')) : o'.length = o.length ∧ s'.length = s.length := by
  unfold pairR at h
  split at h
  · cases h
  · split at h
    · cases h
    · cases h
      exact ⟨List.length_set .., List.length_set ..⟩
set_option maxRecDepth 100000 in
set_option maxHeartbeats 2000000 in
theorem optAll_any {l : List UInt8} (hl : l.length ≤ 1000) (hl0 : l ≠ []) {O : Nat} {o : List Int} (ho : o.length = 4) (W : World) (hO : Blk W O 23 (optC o)) :
    Calls Tryd.prog 21 #[.string (strA l), .pointer (some ⟨O, 0, none⟩)] W (AllPost W O (pairsR (cutL 32 l) (o, seen0))) := by
  have hmm := @run_makeMap Tryd.prog
  have hem : (strA l).toList.isEmpty = false := by rw [strA_empty]; cases l with | nil => exact absurd rfl hl0 | cons a t => rfl
  obtain ⟨S, hS⟩ : ∃ S, S = strA l := ⟨_, rfl⟩
  have HO := Lib.hid hO
  have hsz : S.size = l.length := by rw [hS]; exact strA_size l
  have hex : ∀ f k, S.extract f k = strA ((l.drop f).take (k - f)) := by rw [hS]; exact strA_extract l
  have HS := Lib.hid hS
  have HEX := Lib.hid hex
  rw [← hS] at hem ⊢
  clear hS hO hex
  go_enter Tryd.func21, Tryd.ntmps21
  go_wp2_with fail
  refine wp_region_midN (F := mrF W.heap.size O) (E := mrE W.heap.size) (R := mrR W.heap.size O) (G := mrG W.heap.size O W) (by kernel_rfl) (by kernel_rfl) (by kernel_rfl) ⟨(Below.refl _ _).drew, Nat.le_refl _, .inl rfl⟩ ?_ (fun j k v w w' h _ _ hR hF => mrF_keeps j k v w w' h hR hF) (fun j k w w' h _ hR hE => mrE_keeps j k w w' h hR hE) (fun k w w' hG hR => mrG_keeps k w w' hG hR) ?_ (mr_undef (by kernel_rfl)) ?_
  · intro k hk
    unfold mrE
    split
    · intro es c h
      have := (Array.getElem?_eq_some_iff.1 h).1
      exact absurd this (Nat.lt_irrefl _)
    · intro _; rfl
  · repeat' (first | exact oblAllN_nil | refine oblAllN_cons ?_ ?_)
    all_goals (intro ev yi w hG hE env; rw [if_pos (by simp [Region.wanted])])
    · have hs : w.heap.size = W.heap.size := hE rfl
      simp only [OpSays, execOp, Sem.run_bind, hmm, Option.map_none, Sem.run_pure, Result.andThen_ok]
      refine ⟨⟨by rw [hs], [], 0, ?_, (fun e he => nomatch he), List.Pairwise.nil⟩, hs, rfl⟩
      rw [← hs]
      exact (MapKept.heap_alloc w _).1
    · have f : ev (.tmp 1) = .pointer (some ⟨O, 0, none⟩) := env.out 1 (by kernel_rfl)
      simp only [OpSays, execOp, Sem.run_pure, f]
      exact ⟨rfl, rfl⟩
    · have f : ev (.tmp 12) = .pointer (some ⟨O, 0, none⟩) := env.fact 1 (by decide)
      simp [OpSays, execOp, go_sem, f]
      exact ⟨rfl, rfl⟩
    · have f : ev (.tmp 13) = .pointer (some ⟨O, 0, none⟩) := env.fact 2 (by decide)
      simp [OpSays, execOp, go_sem, f]
      exact ⟨rfl, rfl⟩
    · have f0 : ev (.tmp 11) = .map (some W.heap.size) ∧ MapIn w W.heap.size O := env.fact 0 (by decide)
      have f3 : ev (.tmp 14) = .pointer (some ⟨O, 0, none⟩) := env.fact 3 (by decide)
      obtain ⟨w', hr, hp⟩ := put_place (k := 0) f0.2 hE
      have hr' : (Instr.mapUpdate 44 (.map (some W.heap.size)) (.string ⟨#[98, 108, 111, 99, 107]⟩) (.pointer (some ⟨O, 0, none⟩))).run Tryd.prog w = .ok () w' := hr
      simp only [OpSays, execOp, Sem.run_bind, f0.1, f3, env.const, hr', Sem.run_pure, Result.andThen_ok]
      exact ⟨hp.has, hp⟩
    · have f : ev (.tmp 1) = .pointer (some ⟨O, 0, none⟩) := env.out 1 (by kernel_rfl)
      simp only [OpSays, execOp, Sem.run_pure, f]
      exact ⟨rfl, rfl⟩
    · have f : ev (.tmp 15) = .pointer (some ⟨O, 0, none⟩) := env.fact 5 (by decide)
      simp [OpSays, execOp, go_sem, f]
      exact ⟨rfl, rfl⟩
    · have f : ev (.tmp 16) = .pointer (some ⟨O, 0, none⟩) := env.fact 6 (by decide)
      simp [OpSays, execOp, go_sem, f]
      exact ⟨rfl, rfl⟩
    · have f0 : ev (.tmp 11) = .map (some W.heap.size) ∧ MapIn w W.heap.size O := env.fact 0 (by decide)
      have f3 : ev (.tmp 17) = .pointer (some ⟨O, 1, none⟩) := env.fact 7 (by decide)
      obtain ⟨w', hr, hp⟩ := put_place (k := 1) f0.2 hE
      have hr' : (Instr.mapUpdate 44 (.map (some W.heap.size)) (.string ⟨#[119, 105, 100, 116, 104]⟩) (.pointer (some ⟨O, 1, none⟩))).run Tryd.prog w = .ok () w' := hr
      simp only [OpSays, execOp, Sem.run_bind, f0.1, f3, env.const, hr', Sem.run_pure, Result.andThen_ok]
      exact ⟨hp.has, hp⟩
    · have f : ev (.tmp 1) = .pointer (some ⟨O, 0, none⟩) := env.out 1 (by kernel_rfl)
      simp only [OpSays, execOp, Sem.run_pure, f]
      exact ⟨rfl, rfl⟩
    · have f : ev (.tmp 18) = .pointer (some ⟨O, 0, none⟩) := env.fact 9 (by decide)
      simp [OpSays, execOp, go_sem, f]
      exact ⟨rfl, rfl⟩
    · have f : ev (.tmp 19) = .pointer (some ⟨O, 0, none⟩) := env.fact 10 (by decide)
      simp [OpSays, execOp, go_sem, f]
      exact ⟨rfl, rfl⟩
    · have f0 : ev (.tmp 11) = .map (some W.heap.size) ∧ MapIn w W.heap.size O := env.fact 0 (by decide)
      have f3 : ev (.tmp 20) = .pointer (some ⟨O, 2, none⟩) := env.fact 11 (by decide)
      obtain ⟨w', hr, hp⟩ := put_place (k := 2) f0.2 hE
      have hr' : (Instr.mapUpdate 44 (.map (some W.heap.size)) (.string ⟨#[114, 101, 99, 105, 112, 101]⟩) (.pointer (some ⟨O, 2, none⟩))).run Tryd.prog w = .ok () w' := hr
      simp only [OpSays, execOp, Sem.run_bind, f0.1, f3, env.const, hr', Sem.run_pure, Result.andThen_ok]
      exact ⟨hp.has, hp⟩
    · have f : ev (.tmp 1) = .pointer (some ⟨O, 0, none⟩) := env.out 1 (by kernel_rfl)
      simp only [OpSays, execOp, Sem.run_pure, f]
      exact ⟨rfl, rfl⟩
    · have f : ev (.tmp 21) = .pointer (some ⟨O, 0, none⟩) := env.fact 13 (by decide)
      simp [OpSays, execOp, go_sem, f]
      exact ⟨rfl, rfl⟩
    · have f : ev (.tmp 22) = .pointer (some ⟨O, 0, none⟩) := env.fact 14 (by decide)
      simp [OpSays, execOp, go_sem, f]
      exact ⟨rfl, rfl⟩
    · have f0 : ev (.tmp 11) = .map (some W.heap.size) ∧ MapIn w W.heap.size O := env.fact 0 (by decide)
      have f3 : ev (.tmp 23) = .pointer (some ⟨O, 3, none⟩) := env.fact 15 (by decide)
      obtain ⟨w', hr, hp⟩ := put_place (k := 3) f0.2 hE
      have hr' : (Instr.mapUpdate 44 (.map (some W.heap.size)) (.string ⟨#[109, 111, 100, 101]⟩) (.pointer (some ⟨O, 3, none⟩))).run Tryd.prog w = .ok () w' := hr
      simp only [OpSays, execOp, Sem.run_bind, f0.1, f3, env.const, hr', Sem.run_pure, Result.andThen_ok]
      exact ⟨hp.has, hp⟩
    · have f0 : ev (.tmp 11) = .map (some W.heap.size) ∧ MapIn w W.heap.size O := env.fact 0 (by decide)
      simp only [OpSays, execOp, Sem.run_pure, f0.1]
      exact ⟨⟨rfl, f0.2⟩, rfl⟩
    · have f0 : ev (.tmp 24) = .map (some W.heap.size) ∧ MapIn w W.heap.size O := env.fact 17 (by decide)
      simp only [OpSays, execOp, Sem.run_pure, f0.1]
      exact ⟨⟨rfl, f0.2⟩, rfl⟩
  · intro X w4 hG hX
    have h18 : X 18 = .map (some W.heap.size) := (hX 18 (by decide)).1
    have hM4 : MapP w4 W.heap.size O seen0 := by
      obtain ⟨es, c, hb, hall, hpw⟩ := (hX 18 (by decide)).2
      refine ⟨es, c, hb, fun e he => ?_, fun k hk _ => ?_, hpw⟩
      · obtain ⟨k, hk⟩ := hall e he
        exact ⟨k, hk, by rcases (show k = 0 ∨ k = 1 ∨ k = 2 ∨ k = 3 by have := hk.1; omega) with rfl | rfl | rfl | rfl <;> rfl⟩
      · have hh : HasK w4 W.heap.size k := by
          rcases (show k = 0 ∨ k = 1 ∨ k = 2 ∨ k = 3 by omega) with rfl | rfl | rfl | rfl
          · exact hX 4 (by decide)
          · exact hX 8 (by decide)
          · exact hX 12 (by decide)
          · exact hX 16 (by decide)
        obtain ⟨es', c', hb', e, he, hek⟩ := hh
        obtain rfl := map_inj hb hb'
        exact ⟨e, he, hek⟩
    have HX := Lib.hid h18
    have HM4 := Lib.hid hM4
    have HB4 := Lib.hid hG.1
    have hO4 : Blk w4 O 23 (optC o) := HO.out.below hG.1 HO.out.lt
    have HO4 := Lib.hid hO4
    clear hG hX h18 hM4 hO4
    simp only [layAll, List.setIfInBounds_toArray, List.set_cons_succ, List.set_cons_zero]
    rw [HX.out]
    obtain ⟨B, hB⟩ : ∃ B, B = W.heap.size := ⟨_, rfl⟩
    have HBW := Lib.hid hB
    rw [← hB] at HM4 HB4 ⊢
    clear HX hB
    have hBO : B ≠ O := by have := HO.out.lt; have := HBW.out; omega
    obtain ⟨I, hI⟩ : ∃ I, I = w4.heap.size := ⟨_, rfl⟩
    obtain ⟨n, hn⟩ : ∃ n, n = l.length := ⟨_, rfl⟩
    rw [← hn] at hsz hl
    have hII : I ≠ B ∧ I ≠ O ∧ O ≤ B ∧ O ≤ I := by
      have h1 := HM4.out.lt
      have h2 := HO4.out.lt
      have h3 := HO.out.lt
      have h4 := HBW.out
      omega
    have HII := Lib.hid hII
    have HNL := Lib.hid hn
    have HBO := Lib.hid hBO
    have Hdec := Lib.hid (fun p (h : p < l.length) => dec_any h)
    have hI0 : (w4.iter S 0).heap[I]? = some (.stringIter S 0) := by rw [hI]; exact World.iter_heap w4 S 0
    have HI0 := Lib.hid hI0
    have HM5 := Lib.hid (HM4.out.heap (w' := w4.iter S 0) (Below.heap_alloc w4 _ B HM4.out.lt))
    have HO5 := Lib.hid (show Blk (w4.iter S 0) O 23 (optC o) from HO4.out.alloc_ (.stringIter S 0))
    have HB5 := Lib.hid (show Below O W (w4.iter S 0) from (HB4.out.mono hII.2.2.1).alloc (by have := HO4.out.lt; omega) _)
    have HIW := Lib.hid hI
    clear hII hn hI hI0 hBO hmm
    go_wp2_with fail
    rw [← HIW.out]
    obtain ⟨w5, hw5⟩ : ∃ w5, w5 = w4.iter S 0 := ⟨_, rfl⟩
    rw [← hw5] at HI0 HM5 HO5 HB5 ⊢
    clear hw5 HIW
    go_loopw [6, 7, 8] (fun fv _ _ wr => AllP S l n O B I (o, seen0) fv wr W) (fun _ _ _ wr => n - wr.iterPos I)
    case atStart => exact ⟨0, 0, (o, seen0), Nat.zero_le _, Nat.le_refl _, HI0.out, rfl, Free.nil _ _ _, HM5.out, HO5.out, ho, rfl, rfl, HB5.out⟩
    case round =>
      obtain ⟨p, f, st, hp, hfp, hI, rfl, hfr, hM, hOO, hl1, hl2, hpr, hb⟩ := hrel
      have HF := Lib.hid hfr
      have HPR := Lib.hid hpr
      have HB := Lib.hid hb
      have HL1 := Lib.hid hl1
      have HL2 := Lib.hid hl2
      clear hfr hpr hb hl1 hl2
      by_cases hlt : p < n
      · have hks : p < S.size := by omega
        have hnx := fun ty => Lib.run_next_any_at (P := Tryd.prog) wr I S p ty hI hks
        obtain ⟨r, m, hd, hm1, hm2, hr, hcase⟩ := Hdec.out p (by have := HNL.out; omega)
        rw [← HS.out] at hd
        rw [hd] at hnx
        dsimp only at hnx
        have HI2 := Lib.hid (Lib.iterAt_heap wr I S p (p + m) hI)
        have HM2 := Lib.hid (hM.heap (w' := wr.iterAt I S (p + m)) (Lib.iterAt_other wr I B S (p + m) HII.out.1.symm))
        have HO2 := Lib.hid (show Blk (wr.iterAt I S (p + m)) O 23 (optC st.1) from (Lib.iterAt_other wr I O S (p + m) HII.out.2.1.symm).trans hOO)
        have HB2 := Lib.hid (Lib.below_iterAt HB.out (k := I) HII.out.2.2.2 S (p + m))
        have HP2 := Lib.hid (show wr.iterPos I = p by simp [World.iterPos, hI])
        have HP3 := Lib.hid (show (wr.iterAt I S (p + m)).iterPos I = p + m by simp [World.iterPos, HI2.out])
        obtain ⟨w6, hw6⟩ : ∃ w6, w6 = wr.iterAt I S (p + m) := ⟨_, rfl⟩
        rw [← hw6] at hnx HI2 HM2 HO2 HB2 HP3
        clear hI hd hw6 hM hOO
        have HC := Lib.hid hcase
        by_cases h32 : r = 32
        · have hc : l.getD p 0 = 32 ∧ m = 1 := by
            rcases hcase with ⟨h1, h2, -⟩ | ⟨h1, -⟩
            · refine ⟨UInt8.toNat.inj ?_, h2⟩
              show _ = 32
              omega
            · omega
          have hcut := cut_found hfp HF.out (by have := HNL.out; omega) hc.1
          have h32i : ((r : Int) != 32) = false := by simp [h32]
          have hfi : (f : Int) ≤ (p : Int) := by omega
          have CP := Lib.hid (optPair_any (x := (l.drop f).take (p - f)) (by rw [List.length_take, List.length_drop]; have := HNL.out; omega) HL1.out HL2.out HBO.out w6 HM2.out HO2.out)
          have HCU := Lib.hid hcut
          have HKN := Lib.hid hlt
          have HM1 := Lib.hid hc.2
          have HFP := Lib.hid hfp
          clear hc hcut h32 hcase hlt
          go_wp2_with fail
          rw [HEX.out]
          refine CP.out.mono ?_
          rintro e w7 ⟨⟨ok, rfl, hno, hyes⟩, hbl, hot⟩
          have hBl := hbl O HII.out.2.2.1 (Nat.le_refl _) (Nat.le_of_lt HO2.out.lt)
          have HB7 := Lib.hid (HB2.out.trans hBl)
          have HI7 := Lib.hid ((hot I (Array.getElem?_eq_some_iff.1 HI2.out).1 HII.out.1 HII.out.2.1).trans HI2.out)
          have HP7 := Lib.hid (show w7.iterPos I = p + m by simp [World.iterPos, HI7.out])
          have HNO := Lib.hid hno
          have HYES := Lib.hid hyes
          clear hno hyes hbl hot hBl CP
          cases ok with
          | false =>
            go_wp2
            go_ret
            refine ⟨⟨false, rfl, fun _ => ?_, fun h => by cases h⟩, HB7.out⟩
            rw [HPR.out, HCU.out, pairsR, HNO.out (by simp)]
            rfl
          | true =>
            obtain ⟨st', hst, hm', ho'⟩ := HYES.out rfl
            have hlen := pairR_len (o := st.1) (s := st.2) (o' := st'.1) (s' := st'.2) hst
            have HST := Lib.hid hst
            have HM' := Lib.hid hm'
            have HO' := Lib.hid ho'
            have HLEN := Lib.hid hlen
            clear hst hm' ho' hlen
            go_wp2
            go_roundw
            case rel =>
              refine ⟨_, _, _, _, _, _, _, _, _, _, _, _, _, _, _, _, _, _, _, ?_, rfl⟩
              refine ⟨p + m, p + 1, st', by have := HNL.out; omega, by have := HM1.out; omega, HI7.out, by go_num, ?_, HM'.out, HO'.out, by rw [HLEN.out.1]; exact HL1.out, by rw [HLEN.out.2]; exact HL2.out, ?_, HB7.out⟩
              · rw [HM1.out]; exact Free.nil _ _ _
              · rw [HPR.out, HCU.out, pairsR, HST.out]
                rfl
            case measure =>
              have e1 := HP2.out
              have e2 := HP7.out
              have e3 := HKN.out
              rw [e1, e2]
              omega
        · have h32i : ((r : Int) != 32) = true := by rw [bne_iff_ne]; omega
          have HNE := Lib.hid h32
          have HKN := Lib.hid hlt
          have HFP := Lib.hid hfp
          clear hcase h32 hlt
          go_wp2
          go_roundw
          case rel =>
            refine ⟨p + m, f, st, by have := HNL.out; omega, by have := HFP.out; omega, HI2.out, rfl, ?_, HM2.out, HO2.out, HL1.out, HL2.out, HPR.out, HB2.out⟩
            rcases HC.out with ⟨h1, h2, h3⟩ | ⟨h1, h2⟩
            · rw [h2]
              exact HF.out.one (by rw [← h1]; exact HNE.out)
            · exact HF.out.more (by decide) h2
          case measure =>
            have e1 := HP2.out
            have e2 := HP3.out
            have e3 := HKN.out
            rw [e1, e2]
            omega
      · obtain rfl : p = n := by omega
        have hnx := fun ty => Lib.run_next_end_at (P := Tryd.prog) wr I S p ty hI (by omega)
        have hcut := cut_last (by rw [← HNL.out]; exact HF.out)
        have hfi : (f : Int) ≤ (p : Int) := by omega
        have CP := Lib.hid (optPair_any (x := l.drop f) (by rw [List.length_drop]; have := HNL.out; omega) HL1.out HL2.out HBO.out wr hM hOO)
        have HCU := Lib.hid hcut
        have HOW := Lib.hid hOO.lt
        have hex2 : S.extract f p = strA (l.drop f) := by rw [HEX.out, List.take_of_length_le (by rw [List.length_drop]; have := HNL.out; omega)]
        have HEX2 := Lib.hid hex2
        clear hcut hI hM hOO hex2
        go_wp2_with fail
        rw [HEX2.out]
        refine CP.out.mono ?_
        rintro e w7 ⟨⟨ok, rfl, hno, hyes⟩, hbl, -⟩
        have HB7 := Lib.hid (HB.out.trans (hbl O HII.out.2.2.1 (Nat.le_refl _) (Nat.le_of_lt HOW.out)))
        have HNO := Lib.hid hno
        have HYES := Lib.hid hyes
        clear hno hyes hbl CP
        go_wp2
        go_ret
        refine ⟨⟨ok, rfl, fun h => ?_, fun h => ?_⟩, HB7.out⟩
        · rw [HPR.out, HCU.out, pairsR, HNO.out h]
          rfl
        · obtain ⟨st', hst, -, ho'⟩ := HYES.out h
          have hlen := pairR_len (o := st.1) (s := st.2) (o' := st'.1) (s' := st'.2) hst
          refine ⟨st', ?_, ho', by rw [hlen.1]; exact HL1.out⟩
          rw [HPR.out, HCU.out, pairsR, hst]
          rfl
end Go.Proofs.YtnfkekaeppgaoaaDoor
