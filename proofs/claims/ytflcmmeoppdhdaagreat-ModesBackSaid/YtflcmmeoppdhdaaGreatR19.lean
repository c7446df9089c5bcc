/-
  Layer 21: the program's Make. · Layer 21: who has a code; the fixed calls. · Layer 20, plain: of lens their Kraft sum, and which are noughts. · Layer 21: of bits: whose code is ahead. · Layer 14: Count, of both. · Layer 20: the program's Of and Cost.
-/
import Derived.Test.YtflcmmeoppdhdaaGreatR12
import Derived.Test.YtflcmmeoppdhdaaGreatR13
import Derived.Test.YtflcmmeoppdhdaaGreatR14
import Derived.Test.YtflcmmeoppdhdaaGreatR17
import Derived.Test.YtflcmmeoppdhdaaGreatR18
namespace Go.Proofs.YtflcmmeoppdhdaaGreat
open Go.RowKit Go.Sort Go.Shelf

theorem pvs_zeros : ∀ n : Nat, pvs (List.replicate n (0, 0)) = List.replicate (n * 2) (.int .i64 0)
  | 0 => rfl
  | n + 1 => by rw [List.replicate_succ, pvs_cons, pvs_zeros n, show (n + 1) * 2 = n * 2 + 1 + 1 by omega, List.replicate_succ, List.replicate_succ]; rfl
theorem made_two (n : Nat) : madeCells #[Value.int .i64 0, Value.int .i64 0] n = (List.replicate n (Value.int .i64 0)).toArray := by
  apply Array.ext
  · simp [size_madeCells]
  · intro i h1 h2
    simp only [madeCells, Array.getElem_map, Array.getElem_range, List.getElem_toArray, List.getElem_replicate]
    rcases (by omega : i % 2 = 0 ∨ i % 2 = 1) with e | e
    · show (#[Value.int .i64 0, Value.int .i64 0] : Array Value)[i % 2]! = _
      rw [e]; rfl
    · show (#[Value.int .i64 0, Value.int .i64 0] : Array Value)[i % 2]! = _
      rw [e]; rfl
theorem info_code2 : (Tryz.prog.info? 216).map (fun i => (i.zero, i.size, i.bytes)) = some (some (.agg #[.int .i64 0, .int .i64 0]), 2, 16) := by kernel_rfl
/-- make of n codes, as an equation. -/
theorem make_eqC (n : Nat) (hn : n ≤ 1000000) (w : World) :
    (Instr.makeSlice 211 (.int .i64 (n : Int)) (.int .i64 (n : Int))).run Tryz.prog w = .ok (.slice (some ⟨w.heap.size, 0, none⟩) n n) (w.alloc (.cells (pvs (List.replicate n (0, 0))).toArray 216)) := by
  obtain ⟨i, hi, hz, hsize, hby⟩ := info_parts info_code2
  have hbn : ((i.bytes * n : Nat) : Int) ≤ 281474976710656 := by rw [hby]; omega
  rw [Int.natCast_mul] at hbn
  have hrun := run_make (P := Tryz.prog) w 211 216 i _ Tryz.underlying211 hi hz .i64 .i64 n n (by omega) (Int.le_refl _) hbn (by omega)
  have hzs : (Value.agg #[.int .i64 0, .int .i64 0]).cells = #[.int .i64 0, .int .i64 0] := by kernel_rfl
  simp only [Int.toNat_natCast, hsize, hzs] at hrun
  rw [made_two] at hrun
  rw [pvs_zeros]
  exact hrun
/-- A letter's code, and how long it is. -/
def codeP (l : List Nat) (i : Nat) : Pr := (codeL l i, l.getD i 0)
/-- The codes of the letters in S. -/
def codesS (l S : List Nat) : List Pr := (List.range l.length).map fun i => if i ∈ S then codeP l i else (0, 0)
def entsS (l S : List Nat) : List (Pr × Nat) := S.map fun i => (codeP l i, i)
theorem codesS_nil (l : List Nat) : codesS l [] = List.replicate l.length (0, 0) := by
  unfold codesS
  refine List.ext_getElem? fun j => ?_
  by_cases h : j < l.length
  · rw [List.getElem?_map, List.getElem?_range h, List.getElem?_replicate, if_pos h]; simp
  · rw [List.getElem?_eq_none (by simp; omega), List.getElem?_eq_none (by simp; omega)]
theorem codesS_len (l S : List Nat) : (codesS l S).length = l.length := by simp [codesS]
theorem codesS_snoc (l S : List Nat) (i : Nat) : (codesS l S).set i (codeP l i) = codesS l (S ++ [i]) := by
  refine List.ext_getElem? fun j => ?_
  rw [List.getElem?_set, codesS_len]
  by_cases h : j < l.length
  · unfold codesS
    rw [List.getElem?_map, List.getElem?_map, List.getElem?_range h]
    by_cases e : i = j
    · subst e; simp [h]
    · have : j ≠ i := fun x => e x.symm
      simp [e, this]
  · unfold codesS
    rw [List.getElem?_eq_none (by simp; omega), List.getElem?_eq_none (by simp; omega)]
    by_cases e : i = j
    · rw [if_pos e, if_neg (by omega)]
    · rw [if_neg e]
theorem codesS_get (l S : List Nat) {i : Nat} (h : i < l.length) : pat (codesS l S) i = if i ∈ S then codeP l i else (0, 0) := by
  unfold pat codesS
  simp [List.getD_eq_getElem?_getD, h]
theorem kraftI_zero (l : List Int) (h : ∀ x ∈ l, x ≤ 0) : kraftI l = 0 := by
  unfold kraftI kraftL
  induction l with
  | nil => rfl
  | cons x l ih =>
    rw [List.map_cons, List.map_cons, List.sum_cons, ih fun y hy => h y (List.mem_cons_of_mem _ hy), if_neg (by have := h x List.mem_cons_self; omega)]
theorem kraft_posL (l : List Int) : kraftI l = kraftI (posL l) := by
  unfold kraftI kraftL posL
  induction l with
  | nil => rfl
  | cons x l ih =>
    rw [List.map_cons, List.map_cons, List.sum_cons, ih]
    by_cases h : 0 < x
    · rw [List.filter_cons_of_pos (by simpa using h), List.map_cons, List.map_cons, List.sum_cons]
    · rw [List.filter_cons_of_neg (by simpa using h), if_neg (by omega), Nat.zero_add]
theorem whole_most {l : List Int} (h : WholeC l) : kraftI l ≤ 32768 := by
  rcases h with h | h
  · omega
  · rw [kraft_posL, h]; decide
theorem fresh_key {l S : List Nat} (h : OrdL l S) {t : Nat} (ht : t < S.length) : ∀ p ∈ entsS l (S.take t), p.1 ≠ codeP l S[t] := fun p hp e => by
  obtain ⟨j, hj, rfl⟩ := List.mem_map.1 hp
  have h1 : lexB l j S[t] = true := by
    rw [← take_lex h.up ht] at hj
    exact (List.mem_filter.1 hj).2
  have hjS := h.mem.1 (List.mem_of_mem_take hj)
  have hiS := h.mem.1 (List.getElem_mem ht)
  simp only [codeP, Prod.mk.injEq] at e
  have := codeL_one l hjS.1 hiS.1 e.2 e.1
  rw [this, lexB_irrefl] at h1
  cases h1
theorem codes_next {l S : List Nat} {t : Nat} (ht : t < S.length) : (codesS l (S.take t)).set S[t] (codeP l S[t]) = codesS l (S.take (t + 1)) ∧ entsS l (S.take t) ++ [(codeP l S[t], S[t])] = entsS l (S.take (t + 1)) := by
  have e : S.take (t + 1) = S.take t ++ [S[t]] := by rw [List.take_add_one, List.getElem?_eq_getElem ht]; rfl
  rw [codesS_snoc, e]
  exact ⟨rfl, by unfold entsS; rw [List.map_append]; rfl⟩
theorem whole_here {l : List Int} (h : WholeC l) : hereL (natL l) ≠ [] := fun e => by
  have h0 : ∀ x ∈ l, x ≤ 0 := fun x hx => by
    obtain ⟨i, hi, rfl⟩ := List.getElem_of_mem hx
    have h1 : i ∉ hereL (natL l) := by rw [e]; simp
    have h2 := natL_get l hi
    have h3 : ¬ (i < (natL l).length ∧ 0 < (natL l).getD i 0) := fun hh => h1 (hereL_mem.2 hh)
    rw [natL_len, h2] at h3
    omega
  rcases h with h | h
  · rw [kraftI_zero l h0] at h; exact absurd h (by decide)
  · have : (1 : Int) ∈ posL l := by rw [h]; simp
    unfold posL at this
    have := h0 1 (List.mem_filter.1 this).1
    omega
theorem CAt.set {w : World} {E g M n : Nat} {cs : List Pr} {es : List (Pr × Nat)} {p : Addr} {v : Value} (h : CAt w E g M n cs es) (h1 : p.block ≠ E) (h2 : p.block ≠ g) (h3 : p.block ≠ M) : CAt (w.setCell p v) E g M n cs es :=
  ⟨(heap_setCell_other w p E v (fun e => h1 e.symm)).trans h.box, (heap_setCell_other w p g v (fun e => h2 e.symm)).trans h.row, h.len, h.map.set p v (fun e => h3 e.symm)⟩
theorem TurnsB.setNew {T S : Nat} {w w' : World} {p : Addr} {v : Value} (h : TurnsB T S w w') (hp : w.heap.size ≤ p.block) : TurnsB T S w (w'.setCell p v) :=
  ⟨h.os, h.tape, h.output, Nat.le_trans h.size (by simp [World.setCell]), fun k hk h1 h2 => (heap_setCell_other w' p k v (by omega)).trans (h.block k hk h1 h2)⟩
section
variable {w : World} {A : Option Addr} {n m : Nat} {l : List Int}
set_option maxHeartbeats 1000000 in
set_option maxRecDepth 100000 in
theorem canonMake_arg (hr : Rd w w.heap.size A (zvs l)) (hn : l.length = n) (hb : 4096 < n ∨ l.any cBad = true) :
    Calls Tryz.prog 97 #[.slice A n m] w fun e w' => e = .returned (.tuple #[.pointer none, .int .i64 2]) ∧ w' = w := by
  by_cases h : 4096 < n
  · have hni : (4096 : Int) < (n : Int) := by omega
    clear hr hn hb
    go_enter Tryz.func97, Tryz.ntmps97
    go_wp2
    go_ret2
    exact ⟨rfl, rfl⟩
  · have hbad := hb.resolve_left h
    have C := Lib.hid (contains_any (m := m) (w := w) 157 cBad (enters_of Tryz.func157 (by kernel_rfl) rfl) (fun x W => canonWrong_any x W) hr hn (by omega))
    rw [hbad] at C
    have hn4 : n ≤ 4096 := by omega
    clear hr hn hb hbad h
    go_enter Tryz.func97, Tryz.ntmps97
    go_wp2_with fail
    refine C.out.mono ?_
    rintro _ w1 ⟨rfl, hw⟩
    subst w1
    go_wp2
    go_ret2
    exact ⟨rfl, rfl⟩
set_option maxHeartbeats 1000000 in
set_option maxRecDepth 100000 in
theorem canonMake_range (hr : Rd w w.heap.size A (zvs l)) (hn : l.length = n) (hn4 : n ≤ 4096) (hok : l.any cBad = false) (hw : ¬ WholeC l) :
    Calls Tryz.prog 97 #[.slice A n m] w fun e w' => e = .returned (.tuple #[.pointer none, .int .i64 3]) ∧ w' = w := by
  have C := Lib.hid (contains_any (m := m) (w := w) 157 cBad (enters_of Tryz.func157 (by kernel_rfl) rfl) (fun x W => canonWrong_any x W) hr hn (by omega))
  have D := Lib.hid (canon_fill (m := m) hr hn hn4 (cBad_none.1 hok))
  rw [hok] at C
  rw [wholeB_no hw] at D
  clear hr hn hok hw
  go_enter Tryz.func97, Tryz.ntmps97
  go_wp2_with fail
  refine C.out.mono ?_
  rintro _ w1 ⟨rfl, hw⟩
  subst w1
  go_wp2_with fail
  refine D.out.mono ?_
  rintro _ w1 ⟨rfl, hw⟩
  subst w1
  go_wp2
  go_ret2
  exact ⟨rfl, rfl⟩
set_option maxHeartbeats 4000000 in
set_option maxRecDepth 100000 in
theorem canonMake_ok (hr : Rd w w.heap.size A (zvs l)) (hn : l.length = n) (hn4 : n ≤ 4096) (hok : l.any cBad = false) (hw : WholeC l) :
    Calls Tryz.prog 97 #[.slice A n m] w fun e w' => ∃ E g M S, e = .returned (.tuple #[.pointer (some ⟨E, 0, none⟩), .int .i64 0]) ∧ OrdL (natL l) S ∧ CAt w' E g M n (codesS (natL l) S) (entsS (natL l) S) ∧ Below w.heap.size w w' := by
  have C := Lib.hid (contains_any (m := m) (w := w) 157 cBad (enters_of Tryz.func157 (by kernel_rfl) rfl) (fun x W => canonWrong_any x W) hr hn (by omega))
  have hl := cBad_none.1 hok
  have D := Lib.hid (canon_fill (m := m) hr hn hn4 hl)
  rw [hok] at C
  rw [(wholeB_iff l).2 hw] at D
  have hmk := fun W => make_eqC n (by omega) W
  have hmm := @run_makeMap Tryz.prog
  obtain ⟨W0, hW0⟩ : ∃ W, W = w.alloc (.cells (pvs (List.replicate n (0, 0))).toArray 216) := ⟨_, rfl⟩
  obtain ⟨W1, hW1⟩ : ∃ W, W = W0.alloc (.map #[] 0) := ⟨_, rfl⟩
  obtain ⟨W2, hW2⟩ : ∃ W, W = W1.alloc (.cells #[.slice (some ⟨w.heap.size, 0, none⟩) n n, .map (some (w.heap.size + 1))] 214) := ⟨_, rfl⟩
  have z0 : W0.heap.size = w.heap.size + 1 := by rw [hW0]; simp
  have z1 : W1.heap.size = w.heap.size + 2 := by rw [hW1]; simp [z0]
  have z2 : W2.heap.size = w.heap.size + 3 := by rw [hW2]; simp [z1]
  have b0 : Below w.heap.size w W0 := by rw [hW0]; exact (Below.refl _ _).alloc (Nat.le_refl _) _
  have b1 : Below W0.heap.size W0 W1 := by rw [hW1]; exact (Below.refl _ _).alloc (Nat.le_refl _) _
  have b2 : Below W1.heap.size W1 W2 := by rw [hW2]; exact (Below.refl _ _).alloc (Nat.le_refl _) _
  have k0 : Blk W0 w.heap.size 216 (pvs (codesS (natL l) [])) := by
    have := heap_alloc_new w (.cells (pvs (List.replicate n (0, 0))).toArray 216)
    unfold Blk
    rw [hW0, this, codesS_nil, natL_len, hn]
  have k1 : MapC W1 (w.heap.size + 1) [] := by
    have := mapC_new W0
    rwa [← hW1, z0] at this
  have k2 : Blk W2 (w.heap.size + 2) 214 [.slice (some ⟨w.heap.size, 0, none⟩) n n, .map (some (w.heap.size + 1))] := by
    have := heap_alloc_new W1 (.cells #[.slice (some ⟨w.heap.size, 0, none⟩) n n, .map (some (w.heap.size + 1))] 214)
    unfold Blk
    rw [← z1, hW2, this]
  have hCA : CAt W2 (w.heap.size + 2) w.heap.size (w.heap.size + 1) n (codesS (natL l) []) (entsS (natL l) []) := ⟨k2, (k0.grow b1).grow b2, by rw [codesS_len, natL_len, hn], k1.grow b2⟩
  have b02 : Below w.heap.size w W2 := b0.trans ((b1.trans (b2.mono b1.size)).mono b0.size)
  have F := Lib.hid (inOrder_any (m := m) ((hr.below b02).more b02.size) hn hn4 (fun x hx => (hl x hx).1) (whole_here hw))
  have HR := Lib.hid (And.intro hr (And.intro hn (And.intro hl hw)))
  have HC := Lib.hid (And.intro hCA (And.intro b02 z2))
  clear hr hn hok hw hl k0 k1 k2 b0 b1 b2 b02 hCA z0 z1 z2
  go_enter Tryz.func97, Tryz.ntmps97
  go_wp2_with fail
  refine C.out.mono ?_
  rintro _ w1 ⟨rfl, hw⟩
  subst w1
  go_wp2_with fail
  refine D.out.mono ?_
  rintro _ w1 ⟨rfl, hw⟩
  subst w1
  clear C D
  go_wp2_with fail
  rw [← hW0, ← hW1, ← hW2]
  clear hW0 hW1 hW2 hmk hmm
  refine F.out.mono ?_
  rintro _ w3 ⟨G, S, k, c, rfl, ho, hk, hrS, hb3, hG⟩
  have hCA3 := HC.out.1.grow hb3
  have z3 := hb3.size
  rw [HC.out.2.2] at hG z3
  obtain ⟨E, hE⟩ : ∃ E, E = w.heap.size + 1 + 1 := ⟨_, rfl⟩
  rw [← hE]
  rw [show w.heap.size + 2 = E by omega] at hCA3
  obtain ⟨M, hM⟩ : ∃ M, M = w.heap.size + 1 := ⟨_, rfl⟩
  rw [← hM]
  rw [← hM] at hCA3
  obtain ⟨g, hg⟩ : ∃ g, g = w.heap.size := ⟨_, rfl⟩
  rw [← hg]
  rw [← hg] at hCA3 hG z3 hE hM
  have hS : ∀ t (h : t < S.length), w3.cell? ⟨G, t, none⟩ = some (.int .i64 ((S[t] : Nat) : Int)) ∧ G < w3.heap.size := fun t h => by
    obtain ⟨b', o', he, hlt, hc⟩ := cell_of_rd hrS (k := t) (by simpa [intS] using h)
    obtain ⟨rfl, rfl⟩ : G = b' ∧ o' = 0 := by injection he with e; injection e with e1 e2; exact ⟨e1, e2.symm⟩
    rw [Nat.zero_add] at hc
    refine ⟨?_, hlt⟩
    rw [hc]; simp [intS]
  have hk4 : k ≤ 4096 := by
    rw [← hk, ho.perm.length_eq]; unfold hereL
    exact Nat.le_trans (List.length_filter_le _ _) (by rw [List.length_range, natL_len, HR.out.2.1]; exact hn4)
  have hk0 : 0 < k := by
    rcases Nat.eq_zero_or_pos k with h | h
    · have : S = [] := List.eq_nil_of_length_eq_zero (by omega)
      have h2 := ho.perm
      rw [this] at h2
      exact absurd h2.symm.eq_nil (whole_here HR.out.2.2.2)
    · exact h
  have hmemS : ∀ t (h : t < S.length), S[t] < n ∧ 0 < (natL l).getD S[t] 0 ∧ (natL l).getD S[t] 0 ≤ 15 := fun t h => by
    have h1 := ho.mem.1 (List.getElem_mem h)
    rw [natL_len, HR.out.2.1] at h1
    refine ⟨h1.1, h1.2, ?_⟩
    have h2 := natL_get l (show S[t] < l.length by have := HR.out.2.1; omega)
    have h3 := HR.out.2.2.1 _ (List.getElem_mem (show S[t] < l.length by have := HR.out.2.1; omega))
    omega
  have hn0 : 0 < n := by have := (hmemS 0 (by omega)).1; omega
  obtain ⟨ab, ao, rfl, hab, -⟩ := cell_of_rd HR.out.1 (k := 0) (by have := HR.out.2.1; omega)
  rw [← hg] at hab
  have hbw3 : Below g w w3 := by rw [hg]; exact HC.out.2.1.trans (hb3.mono HC.out.2.1.size)
  have hLc : ∀ i, i < n → w3.cell? ⟨ab, ao + i, none⟩ = some (.int .i64 (((natL l).getD i 0 : Nat) : Int)) := fun i hi => by
    have hil : i < l.length := by have := HR.out.2.1; omega
    obtain ⟨b', o', he, hlt, hc⟩ := cell_of_rd HR.out.1 hil
    obtain ⟨rfl, rfl⟩ : ab = b' ∧ ao = o' := by injection he with e; injection e with e1 e2; exact ⟨e1, e2⟩
    rw [(hbw3.cell (p := ⟨ab, ao + i, none⟩) hab).trans hc, natL_get l hil]
    have := HR.out.2.2.1 _ (List.getElem_mem hil)
    congr 2
    omega
  have hS0 := (hS 0 (by omega)).1
  have hL0 := hLc S[0] (hmemS 0 (by omega)).1
  have hs0 := hmemS 0 (by omega)
  have hG3 := (hS 0 (by omega)).2
  obtain ⟨i0, hi0⟩ : ∃ i, i = S[0]'(by omega) := ⟨_, rfl⟩
  obtain ⟨s0, hs0e⟩ : ∃ s, s = (natL l).getD (S[0]'(by omega)) 0 := ⟨_, rfl⟩
  rw [← hs0e] at hL0 hs0
  rw [← hi0] at hS0 hL0 hs0
  have hi0n : (i0 : Int) < (n : Int) := by omega
  have HF := Lib.hid (And.intro hCA3 (And.intro ho (And.intro hk (And.intro hS (And.intro hLc (And.intro hmemS (And.intro hbw3 (And.intro hi0 hs0e))))))))
  have HZ := Lib.hid (And.intro hE (And.intro hM (And.intro hg (And.intro hG (And.intro z3 (And.intro hab hG3))))))
  clear hCA3 ho hS hLc hmemS hbw3 hi0 hs0e hE hM hg hG z3 hab hG3 F hb3 hrS
  go_wp2_with fail
  have hb4 : Below w3.heap.size w3 (w3.alloc (.cells #[.int .i64 (0 : Int), .int .i64 (s0 : Int)] 216)) := (Below.refl _ _).alloc (Nat.le_refl _) _
  go_loopw [8, 36] (fun _ i wr => ∃ t b s : Nat, t ≤ k ∧ i = .int .i64 (t : Int) ∧ CAt wr E g M n (codesS (natL l) (S.take t)) (entsS (natL l) (S.take t)) ∧ Blk wr w3.heap.size 216 [.int .i64 (b : Int), .int .i64 (s : Int)] ∧ Hid (b * 2 ^ (15 - s) = sumK (natL l) (S.take t)) ∧ s ≤ 15 ∧ Hid (∀ h : t < S.length, s ≤ (natL l).getD S[t] 0) ∧ TurnsB g M w3 wr) (fun _ i _ => k - (intOf i).toNat)
  case atStart =>
    refine ⟨0, 0, s0, Nat.zero_le _, rfl, HF.out.1.grow hb4, ?_, Lib.hid (by simp [sumK]), by omega, Lib.hid (fun h => by rw [HF.out.2.2.2.2.2.2.2.2]; exact Nat.le_refl _), TurnsB.of_below hb4⟩
    have := heap_alloc_new w3 (.cells #[.int .i64 (0 : Int), .int .i64 (s0 : Int)] 216)
    exact this
  case round =>
    clear hb4 hS0 hL0 hs0
    obtain ⟨t, b, s, ht, rfl, hca, hblk, HK, hs15, HU, htn⟩ := hrel
    by_cases htk : t < k
    · have htS : t < S.length := by omega
      obtain ⟨zE, zM, zg, zG, z3, zab, zG3⟩ := HZ.out
      obtain ⟨-, ho, -, hS, hLc, hmemS, hbw3, -, -⟩ := HF.out
      have hm := hmemS t htS
      have hcS := (hS t htS).1
      have hcS := (World.cell?_of_block (htn.block G zG3 (by omega) (by omega))).trans hcS
      have hcL := hLc S[t] hm.1
      have hcL := (World.cell?_of_block (htn.block ab (by omega) (by omega) (by omega))).trans hcL
      have hsu := HU.out htS
      have hnc := next_code ho htS hm.2.2 hsu HK.out
      have hns := next_sum ho htS hm.2.2
      have hkr : codeL (natL l) S[t] < 1000000 := by
        have h1 := codeL_most (l := natL l) (i := S[t]) (by rw [natL_len, HR.out.2.1]; exact hm.1) hm.2.1 hm.2.2
        have h2 := whole_most HR.out.2.2.2
        have h3 : kraftL (natL l) = kraftI l := rfl
        omega
      have CL := Lib.hid (canon_longer b s ((natL l).getD S[t] 0) hsu hm.2.2 (by rw [hnc]; omega))
      rw [hnc] at CL
      have hcn := codes_next (l := natL l) htS
      have hfk := fresh_key ho htS
      obtain ⟨i, hi⟩ : ∃ i, i = S[t]'htS := ⟨_, rfl⟩
      obtain ⟨kp, hkp⟩ : ∃ kp, kp = codeP (natL l) (S[t]'htS) := ⟨_, rfl⟩
      rw [← hkp] at hcn hfk
      obtain ⟨Q, hQ⟩ : ∃ Q, Q = codeL (natL l) (S[t]'htS) := ⟨_, rfl⟩
      obtain ⟨z, hz⟩ : ∃ z, z = (natL l).getD (S[t]'htS) 0 := ⟨_, rfl⟩
      have hup : ∀ h : t + 1 < S.length, z ≤ (natL l).getD S[t + 1] 0 := fun h => by rw [hz]; exact ord_up ho h
      have hkp2 : kp = (Q, z) := by rw [hkp, hQ, hz]; rfl
      rw [← hz] at CL hcL hsu hns hm
      rw [← hQ] at CL hkr hns
      rw [← hi] at hcS hcL hm hcn
      subst hkp2
      have hin := hm.1
      have hzz := hm.2.2
      have hii : (i : Int) < (n : Int) := by omega
      have hti : (t : Int) < (k : Int) := by omega
      have HN := Lib.hid (And.intro hns (And.intro hup (And.intro hcn (And.intro hfk hin))))
      have HW := Lib.hid (And.intro hca (And.intro hblk htn))
      have HTK := Lib.hid htk
      have c0 := hblk.cell 0
      have c1 := hblk.cell 1
      simp only [List.getElem?_cons_zero, List.getElem?_cons_succ] at c0 c1
      clear ho hS hLc hmemS hbw3 hnc hns hup hcn hfk hm hca hblk htn hi hkp hQ hz HK HU hsu
      simp only [codeV, codeVI] at CL
      obtain ⟨X, hX⟩ : ∃ X, X = w3.heap.size := ⟨_, rfl⟩
      clear zE zM zg zG z3 zab zG3
      rw [← hX] at c0 c1 ⊢
      have HX := Lib.hid hX
      clear hX
      go_wp2_with fail
      refine wp_region_still_tail 5 (by kernel_rfl) (by kernel_rfl) ?_
      simp only [List.take_succ_cons, List.take_zero, List.drop_succ_cons, List.drop_zero]
      repeat still_step
      refine wpStill_nil ?_
      change wpList _ _ _ _ _ wr.drew
      go_wp2_with fail
      refine (CL.out wr.drew).mono ?_
      rintro _ w5 ⟨rfl, hb5⟩
      obtain ⟨hca, hblk, htn⟩ := HW.out
      rw [← HX.out] at hblk
      have hb5' : Below wr.heap.size wr w5 := ⟨hb5.os, hb5.tape, hb5.output, hb5.size, hb5.block⟩
      have hca5 := hca.grow hb5'
      have hblk5 := hblk.grow hb5'
      have htn5 := htn.trans (TurnsB.of_below hb5')
      have hlt5 := hblk5.lt
      have hXn : X ≠ E ∧ X ≠ g ∧ X ≠ M ∧ E ≠ g := by have := HZ.out; have := HX.out; omega
      have d0 := hblk5.cell 0
      have d1 := hblk5.cell 1
      simp only [List.getElem?_cons_zero, List.getElem?_cons_succ] at d0 d1
      have f0 := hblk5.frozen 0
      have f1 := hblk5.frozen 1
      have hblk6 := (hblk5.set_ 0 (.int .i64 (Q : Int))).set_ 1 (.int .i64 (z : Int))
      simp only [List.set_cons_zero, List.set_cons_succ] at hblk6
      have hca6 := (hca5.set (p := ⟨X, 0, none⟩) (v := .int .i64 (Q : Int)) hXn.1 hXn.2.1 hXn.2.2.1).set (p := ⟨X, 1, none⟩) (v := .int .i64 (z : Int)) hXn.1 hXn.2.1 hXn.2.2.1
      have htn6 := (htn5.setNew (p := ⟨X, 0, none⟩) (v := .int .i64 (Q : Int)) (by show w3.heap.size ≤ X; rw [HX.out]; exact Nat.le_refl _)).setNew (p := ⟨X, 1, none⟩) (v := .int .i64 (z : Int)) (by show w3.heap.size ≤ X; rw [HX.out]; exact Nat.le_refl _)
      have CG := Lib.hid (codesGive hca6 hXn.2.2.2 i HN.out.2.2.2.2 (Q, z) HN.out.2.2.2.1)
      have H6 := Lib.hid (And.intro hblk6 (And.intro htn6 hXn))
      clear hca hblk htn hb5 hb5' hca5 hblk5 htn5 hlt5 hblk6 hca6 htn6 hXn c0 c1 CL
      simp only [codeV, codeVI] at CG
      go_wp2_with fail
      refine CG.out.mono ?_
      rintro _ w7 ⟨rfl, hca7, q1, q2, q3, q4, q5⟩
      obtain ⟨hblk6, htn6, hXn⟩ := H6.out
      have hblk7 : Blk w7 X 216 [.int .i64 (Q : Int), .int .i64 (z : Int)] := (q5 X hblk6.lt hXn.2.1 hXn.2.2.1).trans hblk6
      have htn7 : TurnsB g M w3 w7 := htn6.trans ⟨q1, q2, q3, q4, fun j hj h1 h2 => q5 j hj h1 h2⟩
      have d0 := hblk7.cell 0
      simp only [List.getElem?_cons_zero] at d0
      have f0 := hblk7.frozen 0
      have hblk8 := hblk7.set_ 0 (.int .i64 ((Q + 1 : Nat) : Int))
      simp only [List.set_cons_zero] at hblk8
      have hca8 := hca7.set (p := ⟨X, 0, none⟩) (v := .int .i64 ((Q + 1 : Nat) : Int)) hXn.1 hXn.2.1 hXn.2.2.1
      have htn8 := htn7.setNew (p := ⟨X, 0, none⟩) (v := .int .i64 ((Q + 1 : Nat) : Int)) (by show w3.heap.size ≤ X; rw [HX.out]; exact Nat.le_refl _)
      rw [HN.out.2.2.1.1, HN.out.2.2.1.2] at hca8
      have H8 := Lib.hid (And.intro hca8 (And.intro hblk8 htn8))
      have eQ : ((Q + 1 : Nat) : Int) = (Q : Int) + 1 := by omega
      rw [eQ] at H8
      have hQ2 : (Q : Int) + 1 ≤ 1000000 := by omega
      clear hca7 q1 q2 q3 q4 q5 hblk6 htn6 hXn hblk7 htn7 hblk8 hca8 htn8 CG H6 eQ
      go_wp2
      go_roundw
      case rel => exact ⟨t + 1, Q + 1, z, HTK.out, by go_num, H8.out.1, by rw [show ((Q + 1 : Nat) : Int) = (Q : Int) + 1 by omega]; first | exact H8.out.2.1 | (rw [← HX.out]; exact H8.out.2.1), Lib.hid HN.out.1, hzz, Lib.hid HN.out.2.1, H8.out.2.2⟩
      case measure => have := HTK.out; simp [intOf]; omega
    · obtain rfl : k = t := by omega
      have hk := HF.out.2.2.1
      rw [List.take_of_length_le (by omega)] at hca
      have HEND := Lib.hid (And.intro hca (htn.below (B := g) (Nat.le_refl _) (by have := HZ.out; omega) (by have := HZ.out; omega)))
      clear hca hblk htn hk
      go_wp2
      go_ret2
      exact ⟨E, g, M, S, rfl, HF.out.2.1, HEND.out.1, by
        have h := HF.out.2.2.2.2.2.2.1.trans HEND.out.2
        rw [HZ.out.2.2.1] at h
        exact h⟩
end
end Go.Proofs.YtflcmmeoppdhdaaGreat
namespace Go.Proofs.YtflcmmeoppdhdaaGreat
open Go.RowKit Go.Sort Go.Shelf

theorem ents_mem {l S : List Nat} (h : OrdL l S) {q : Pr × Nat} : q ∈ entsS l S ↔ ∃ i, i < l.length ∧ 0 < l.getD i 0 ∧ q = (codeP l i, i) := by
  unfold entsS
  rw [List.mem_map]
  constructor
  · rintro ⟨i, hi, rfl⟩
    have := h.mem.1 hi
    exact ⟨i, this.1, this.2, rfl⟩
  · rintro ⟨i, h1, h2, rfl⟩
    exact ⟨i, h.mem.2 ⟨h1, h2⟩, rfl⟩
/-- A code's letter is found. -/
theorem find_letter {l S : List Nat} (h : OrdL l S) {i : Nat} (hi : i < l.length) (h0 : 0 < l.getD i 0) {x y : Int} (hx : x = (codeL l i : Int)) (hy : y = (l.getD i 0 : Int)) : ∃ r, findC x y (entsS l S) 0 = some (r, .int .i64 (i : Int)) :=
  findC_some x y _ 0 (codeP l i, i) ((ents_mem h).2 ⟨i, hi, h0, rfl⟩) ⟨hx, hy⟩ fun q hq hqe => by
    obtain ⟨j, hj, hj0, rfl⟩ := (ents_mem h).1 hq
    obtain ⟨e1, e2⟩ := hqe
    have e1' : x = (codeL l j : Int) := e1
    have e2' : y = (l.getD j 0 : Int) := e2
    exact codeL_one l hj hi (Int.ofNat_inj.1 (e2'.symm.trans hy)) (Int.ofNat_inj.1 (e1'.symm.trans hx))
theorem find_none {l S : List Nat} (h : OrdL l S) {x y : Int} (hn : ∀ i, i < l.length → 0 < l.getD i 0 → ¬ (x = (codeL l i : Int) ∧ y = (l.getD i 0 : Int))) : findC x y (entsS l S) 0 = none :=
  findC_none x y _ 0 fun q hq => by
    obtain ⟨j, hj, hj0, rfl⟩ := (ents_mem h).1 hq
    exact hn j hj hj0
theorem pat_code {l S : List Nat} (h : OrdL l S) {i : Nat} (hi : i < l.length) : pat (codesS l S) i = if 0 < l.getD i 0 then codeP l i else (0, 0) := by
  rw [codesS_get l S hi]
  by_cases h0 : 0 < l.getD i 0
  · rw [if_pos h0, if_pos (h.mem.2 ⟨hi, h0⟩)]
  · rw [if_neg h0, if_neg (fun hm => h0 (h.mem.1 hm).2)]
end Go.Proofs.YtflcmmeoppdhdaaGreat
namespace Go.Proofs.YtflcmmeoppdhdaaGreat

theorem LensOfR.len {c o : List Int} (h : LensOfR c o) : o.length = c.length := by
  induction h with
  | done c o h hs => exact h.len
  | half c o r h hs hr ih => rw [ih, List.length_map]
def posBL (x : Int) : Bool := decide (0 < x)
theorem posL_many (c : List Int) : (posL c).length = (c.map posBL).countP id := by
  unfold posL posBL
  induction c with
  | nil => rfl
  | cons x c ih =>
    rw [List.map_cons, List.countP_cons, ← ih]
    by_cases h : 0 < x <;> simp [h]
theorem lens_end {c o : List Int} (h : LensOfR c o) : (∀ x ∈ c, 0 ≤ x) → ∃ c', DeepR c' o ∧ Short o ∧ (∀ x ∈ c', 0 ≤ x) ∧ c'.map posBL = c.map posBL := by
  induction h with
  | done c o h hs => exact fun hc => ⟨c, h, hs, hc, rfl⟩
  | half c o r h hs hr ih =>
    intro hc
    obtain ⟨c', h1, h2, h3, h4⟩ := ih fun x hx => by
      obtain ⟨y, hy, rfl⟩ := List.mem_map.1 hx
      exact (half_le (hc y hy)).1
    refine ⟨c', h1, h2, h3, ?_⟩
    rw [h4, List.map_map]
    refine List.map_congr_left fun x hx => ?_
    have := hc x hx
    show posBL (halfI x) = posBL x
    unfold posBL
    exact decide_eq_decide.2 (by unfold halfI; omega)
theorem deep_at {c o : List Int} (h : DeepR c o) {k : Nat} (hk : k < o.length) : ∃ d : Nat, o[k] = (d : Int) ∧ (d = 0 ↔ (c.map posBL)[k]? = some false) := by
  have hl := h.len
  obtain ⟨g, -, rfl⟩ := h
  have hk' : k < c.length := by omega
  have h1 := lensF_get g.d c 0 k hk'
  rw [List.getElem?_eq_getElem hk] at h1
  injection h1 with h1
  rw [h1, List.getElem?_map, List.getElem?_eq_getElem hk']
  by_cases e : 0 < c[k]
  · exact ⟨_, if_pos e, by simp [posBL, e]⟩
  · exact ⟨0, if_neg e, by simp [posBL, e]⟩
/-- Of lens: none too long, and 0 just where there is nothing. -/
theorem lens_at {c o : List Int} (h : LensOfR c o) (hc : ∀ x ∈ c, 0 ≤ x) {k : Nat} (hk : k < o.length) (hk' : k < c.length) : 0 ≤ o[k] ∧ o[k] ≤ 15 ∧ (o[k] = 0 ↔ c[k] = 0) := by
  obtain ⟨c', h1, h2, -, h4⟩ := lens_end h hc
  obtain ⟨d, hd, hz⟩ := deep_at h1 hk
  have h5 := h2 _ (List.getElem_mem hk)
  have h6 := hc _ (List.getElem_mem hk')
  rw [h4, List.getElem?_map, List.getElem?_eq_getElem hk'] at hz
  simp only [Option.map_some, Option.some.injEq, posBL, decide_eq_false_iff_not] at hz
  omega
def bitK (d : Nat) : Nat := if 1 ≤ max d 1 ∧ max d 1 ≤ 15 then 2 ^ (15 - max d 1) else 0
theorem allOf_head (v : Nat → Nat) : ∀ k, allOf v (k + 1) = v 0 + allOf (fun i => v (i + 1)) k
  | 0 => by simp [allOf]
  | k + 1 => by
    rw [allOf, allOf_head v k, allOf]
    omega
theorem kraft_lensF (d : Nat → Nat) : ∀ (c : List Int) (j : Nat), kraftI (lensF d c j) = allOf (fun i => bitK (d (j + i))) (posL c).length
  | [], _ => rfl
  | x :: c, j => by
    unfold lensF posL
    by_cases h : 0 < x
    · rw [if_pos h, List.filter_cons_of_pos (by simpa using h), List.length_cons, allOf_head]
      have ih := kraft_lensF d c (j + 1)
      unfold kraftI kraftL posL at *
      rw [List.map_cons, List.map_cons, List.sum_cons, ih, Int.toNat_natCast]
      simp only [Nat.add_assoc, Nat.add_comm 1]
      rfl
    · rw [if_neg h, List.filter_cons_of_neg (by simpa using h)]
      have ih := kraft_lensF d c j
      unfold kraftI kraftL posL at *
      rw [List.map_cons, List.map_cons, List.sum_cons, ih]
      simp
theorem allOf_congr {u v : Nat → Nat} : ∀ k, (∀ i, i < k → u i = v i) → allOf u k = allOf v k
  | 0, _ => rfl
  | k + 1, h => by rw [allOf, allOf, allOf_congr k fun i hi => h i (by omega), h k (by omega)]
theorem one_deep {w : Nat → Nat} {g : For} (h : Huff (For.start 1 w) g) : g.d 0 = 0 := by
  cases h with
  | last => rfl
  | join _ _ a b ha hb hr =>
    have h1 := (start_ok 1 w).less a ha.1
    have h2 := (start_ok 1 w).less b hb.1.1
    have h3 : (For.start 1 w).N = 1 := rfl
    exact absurd (show b = a by omega) hb.1.2
theorem deep_small {c : List Int} {d : Nat → Nat} (hs : Short (lensF d c 0)) {i : Nat} (hi : i < (posL c).length) : max (d i) 1 ≤ 15 := by
  have key : ∀ (c : List Int) (j i : Nat), i < (posL c).length → ((max (d (j + i)) 1 : Nat) : Int) ∈ lensF d c j := by
    intro c
    induction c with
    | nil => intro j i h; simp [posL] at h
    | cons x c ih =>
      intro j i h
      unfold lensF
      unfold posL at h ih
      by_cases hx : 0 < x
      · rw [if_pos hx]
        rw [List.filter_cons_of_pos (by simpa using hx), List.length_cons] at h
        cases i with
        | zero => exact List.mem_cons_self
        | succ i =>
          have := ih (j + 1) i (by omega)
          rw [show j + 1 + i = j + (i + 1) by omega] at this
          exact List.mem_cons_of_mem _ this
      · rw [if_neg hx]
        rw [List.filter_cons_of_neg (by simpa using hx)] at h
        exact List.mem_cons_of_mem _ (ih j i h)
  have := hs _ (key c 0 i hi)
  rw [Nat.zero_add] at this
  omega
/-- The sum of lens: none, half of all codes, all codes. -/
theorem lens_kraft {c o : List Int} (h : LensOfR c o) (hc : ∀ x ∈ c, 0 ≤ x) :
    ((posL c).length = 0 → kraftI o = 0) ∧ ((posL c).length = 1 → kraftI o = 16384) ∧ (2 ≤ (posL c).length → kraftI o = 32768) := by
  obtain ⟨c', h1, h2, -, h4⟩ := lens_end h hc
  rw [posL_many, ← h4, ← posL_many]
  obtain ⟨g, hg, rfl⟩ := h1
  rw [kraft_lensF]
  refine ⟨fun e => by rw [e]; rfl, fun e => ?_, fun e => ?_⟩
  · rw [e] at hg ⊢
    have := one_deep hg
    simp only [allOf, Nat.zero_add, this]
    decide
  · have hd := huff_deep hg e
    have h15 : ∀ j, j < (posL c').length → g.d j ≤ 15 := fun j hj => by have := deep_small h2 hj; omega
    have := huff_kraft hg (by omega) h15
    rw [← (by decide : 2 ^ 15 = 32768), ← this]
    refine allOf_congr _ fun i hi => ?_
    have q1 := hd i hi
    have q2 := h15 i hi
    unfold bitK
    rw [Nat.zero_add, show max (g.d i) 1 = g.d i by omega, if_pos ⟨q1, q2⟩]
end Go.Proofs.YtflcmmeoppdhdaaGreat
namespace Go.Proofs.YtflcmmeoppdhdaaGreat
open Go.RowKit Go.Sort Go.Shelf

/-- Lens are whole where there is a letter. -/
theorem lens_whole {c o : List Int} (h : LensOfR c o) (hc : ∀ x ∈ c, 0 ≤ x) (h1 : 1 ≤ (posL c).length) : WholeC o := by
  obtain ⟨c', q1, q2, -, q4⟩ := lens_end h hc
  by_cases h2 : 2 ≤ (posL c).length
  · exact .inl ((lens_kraft h hc).2.2 h2)
  · right
    have e : (posL c').length = 1 := by rw [posL_many, q4, ← posL_many]; omega
    obtain ⟨g, hg, rfl⟩ := q1
    rw [e] at hg
    have hd := one_deep hg
    have key : ∀ (c : List Int) (j : Nat), posL (lensF g.d c j) = (List.range (posL c).length).map fun i => ((max (g.d (j + i)) 1 : Nat) : Int) := by
      intro c
      induction c with
      | nil => intro j; rfl
      | cons x c ih =>
        intro j
        unfold lensF
        by_cases hx : 0 < x
        · rw [if_pos hx]
          unfold posL at ih ⊢
          rw [List.filter_cons_of_pos (by simp; omega), List.filter_cons_of_pos (by simpa using hx), ih, List.length_cons, List.range_succ_eq_map, List.map_cons, List.map_map]
          congr 1
          refine List.map_congr_left fun i _ => ?_
          simp only [Function.comp]
          rw [show j + 1 + i = j + (i + 1) by omega]
        · rw [if_neg hx]
          unfold posL at ih ⊢
          rw [List.filter_cons_of_neg (by decide), List.filter_cons_of_neg (by simpa using hx), ih]
    rw [key, e]
    simp [List.range_succ, hd]
theorem lens_ok {c o : List Int} (h : LensOfR c o) (hc : ∀ x ∈ c, 0 ≤ x) : o.any cBad = false := by
  rw [cBad_none]
  intro x hx
  obtain ⟨i, hi, rfl⟩ := List.getElem_of_mem hx
  have := lens_at h hc hi (by rw [← h.len]; exact hi)
  exact ⟨this.1, this.2.1⟩
end Go.Proofs.YtflcmmeoppdhdaaGreat
namespace Go.Proofs.YtflcmmeoppdhdaaGreat
open Go.RowKit Go.Sort Go.Shelf

section
variable {w : World} {A : Option Addr} {n m : Nat} {l : List UInt8}
set_option maxHeartbeats 1000000 in
set_option maxRecDepth 100000 in
theorem normCount_any (hr : Rd w w.heap.size A (bvs l)) (hn : l.length = n) (hn1 : n ≤ 1000000) :
    Calls Tryz.prog 77 #[.slice A n m] w fun e w' => ∃ g, e = .returned (.slice (some ⟨g, 0, none⟩) (256 : Nat) 256) ∧ w.heap.size ≤ g ∧ Blk w' g 3 (zvs (cntL l)) ∧ Below w.heap.size w w' := by
  obtain ⟨i0, hi, hz0, hz1, hz2⟩ := info_parts info_int12
  have HR := Lib.hid hr
  have HC := Lib.hid hn
  clear hr hn
  go_enter Tryz.func77, Tryz.ntmps77
  go_wp2_with (at_make; go_must (refine wpList_mk rfl (.const (.int .i64 256)) (.const (.int .i64 256)) 53 rfl w.heap.size 3 i0 (.int .i64 0) 8 Tryz.underlying53 hi hz0 rfl hz1 hz2 .i64 .i64 _ _ rfl rfl 256 256 rfl rfl (Nat.le_refl _) (by omega) (by simp only [maxLen]; omega) (Nat.le_refl _) ?_; intro w1 hg1 hown1 hgr1; have hb : Below w.heap.size w w1 := (Below.refl _ _).grown hgr1 (Nat.le_refl _) (by simp)))
  have hk1 : Blk w1 w.heap.size 3 (zvs (cntL (l.take 0))) := by
    unfold Blk; rw [hg1, List.take_zero]; simp [zvs, cntL]
  have HK1 := Lib.hid hk1
  have HB1 := Lib.hid hb
  obtain ⟨g, hg⟩ : ∃ g, g = w.heap.size := ⟨_, rfl⟩
  rw [← hg] at HK1
  simp only [← hg]
  have HG := Lib.hid hg
  clear hk1 hb hg hown1 hgr1 hg1
  go_loopw [9] (fun i wr => ∃ k : Nat, k ≤ n ∧ i = .int .i64 (k : Int) ∧ Blk wr g 3 (zvs (cntL (l.take k))) ∧ Below w.heap.size w wr) (fun i _ => n - (intOf i).toNat)
  case atStart => exact ⟨0, Nat.zero_le _, rfl, HK1.out, HB1.out⟩
  case round =>
    clear HK1 HB1
    obtain ⟨k, hk, rfl, hblk, hb⟩ := hrel
    have HB := Lib.hid hb
    clear hb
    by_cases hlt : k < n
    · have hkl : k < l.length := by have := HC.out; omega
      obtain ⟨ab, ao, rfl, hab, hcell0⟩ := HR.out k _ (bvs_get l k hkl)
      have hcell := (HB.out.cell (p := ⟨ab, ao + k, none⟩) hab).trans hcell0
      have hst := cntL_take l hkl
      have hx1 : l[k].toNat < 256 := l[k].toNat_lt
      have hlc := cntL_len (l.take k)
      have hle := cntL_le (l.take k)
      obtain ⟨C, hC⟩ : ∃ C, C = cntL (l.take k) := ⟨_, rfl⟩
      rw [← hC] at hblk hst hlc hle
      unfold cntStep at hst
      obtain ⟨x, hx⟩ : ∃ x, x = l[k].toNat := ⟨_, rfl⟩
      rw [← hx] at hcell hst hx1
      have hxc : x < C.length := by omega
      have e : C.getD x 0 = C[x] := by simp [List.getD_eq_getElem?_getD, hxc]
      rw [e] at hst
      have hy := hle _ (List.getElem_mem hxc)
      have hgc := hblk.cell x
      have hgf := hblk.frozen x
      rw [zvs_get, List.getElem?_eq_getElem hxc] at hgc
      obtain ⟨y, hyy⟩ : ∃ y, y = C[x]'hxc := ⟨_, rfl⟩
      rw [← hyy] at hgc hst hy
      simp only [Option.map_some] at hgc
      rw [List.length_take] at hy
      obtain ⟨hy0, hy1⟩ := hy
      have hy2 : y ≤ 1000000 := by omega
      have hki : (k : Int) < (n : Int) := by omega
      have hxi : (x : Int) < 256 := by omega
      have hset := hblk.set_ x (.int .i64 (y + 1))
      rw [zvs_set, ← hst] at hset
      have HSET := Lib.hid hset
      have HB2 := Lib.hid (HB.out.setCell (p := ⟨g, x, none⟩) (by rw [HG.out]; exact Nat.le_refl _) (.int .i64 (y + 1)))
      clear hcell0 hst hlc hle hC hx e hyy hy1 hset hblk hxc
      go_wp2
      go_roundw
      case rel => exact ⟨k + 1, by omega, by go_num, HSET.out, HB2.out⟩
      case measure => simp [intOf]; omega
    · obtain rfl : k = n := by omega
      rw [List.take_of_length_le (by have := HC.out; omega)] at hblk
      have HBL := Lib.hid hblk
      clear hblk
      go_wp2
      go_ret
      exact ⟨g, rfl, by rw [HG.out]; exact Nat.le_refl _, HBL.out, HB.out⟩
end
end Go.Proofs.YtflcmmeoppdhdaaGreat
namespace Go.Proofs.YtflcmmeoppdhdaaGreat
open Go.RowKit Go.Sort Go.Shelf

section
variable {w : World} {A : Option Addr} {n m : Nat} {c : List Int}
set_option maxHeartbeats 2000000 in
set_option maxRecDepth 100000 in
theorem lens_Of (hr : Rd w w.heap.size A (zvs c)) (hn : c.length = n) (hn1 : n ≤ 1500) (hc : Good c) :
    Calls Tryz.prog 96 #[.slice A n m] w fun e w' => ∃ v out, e = .returned v ∧ LensOfR c out ∧ LensV w.heap.size out v w' ∧ Below w.heap.size w w' := by
  have hsum : ∀ {c' : List Int}, Good c' → c'.length = n → c'.sum ≤ 9007199254740992 := fun {c'} h1 h2 => by have := good_sum h1; omega
  have C := Lib.hid (contains_any (m := m) (w := w) 153 nBad (enters_of Tryz.func153 (by kernel_rfl) rfl) (fun x W => lensWrong_any x W) hr hn (by omega))
  rw [good_bad.2 hc] at C
  have D := Lib.hid (fun (W : World) (A' : Option Addr) (m' : Nat) (c' : List Int) (h1 : Rd W W.heap.size A' (zvs c')) (h2 : c'.length = n) (h3 : Good c') => lens_lensOf (m := m') (w := W) h1 h2 (by omega) h3 (hsum h3 h2))
  have E := Lib.hid (fun (W : World) (A' : Option Addr) (m' n' : Nat) (o : List Int) (h1 : Rd W W.heap.size A' (zvs o)) (h2 : o.length = n') (h3 : n' ≤ 4096) => contains_any (m := m') (w := W) 155 longB (enters_of Tryz.func155 (by kernel_rfl) rfl) (fun x W => lensLong_any x W) h1 h2 h3)
  have F := Lib.hid (fun (W : World) (A' : Option Addr) (m' : Nat) (c' : List Int) (h1 : Rd W W.heap.size A' (zvs c')) (h2 : c'.length = n) (h3 : Good c') => lens_halves (m := m') (w := W) h1 h2 (by omega) h3)
  have HR := Lib.hid hr
  have HC := Lib.hid (And.intro hn hc)
  have hn4 : n ≤ 4096 := by omega
  clear hr hn hc hsum
  go_enter Tryz.func96, Tryz.ntmps96
  go_wp2_with fail
  refine C.out.mono ?_
  rintro _ w1 ⟨rfl, hw⟩
  subst w1
  clear C
  go_wp2_with fail
  refine (D.out w A m c HR.out HC.out.1 HC.out.2).mono ?_
  rintro _ w2 ⟨v2, o2, rfl, hd2, hl2, hb2⟩
  have HST := Lib.hid (And.intro hd2 (And.intro hl2 hb2))
  clear hd2 hl2 hb2
  go_wp2
  go_loopg [0, 3] (c.sum.toNat) (fun gg s0 s3 wr => ∃ (A' : Option Addr) (m' : Nat) (c' o : List Int), s0 = .slice A' n m' ∧ Rd wr wr.heap.size A' (zvs c') ∧ c'.length = n ∧ Good c' ∧ DeepR c' o ∧ LensV w.heap.size o s3 wr ∧ (∀ r, LensOfR c' r → LensOfR c r) ∧ Below w.heap.size w wr ∧ c'.sum.toNat = gg)
  case atStart => exact ⟨A, m, c, o2, rfl, (HR.out.below HST.out.2.2).more HST.out.2.2.size, HC.out.1, HC.out.2, HST.out.1, HST.out.2.1, fun _ h => h, HST.out.2.2, rfl⟩
  case round =>
    clear HST
    obtain ⟨A', m', c', o, rfl, hr', hn', hg', hd', hl', hway, hb', hgg⟩ := hrel
    obtain ⟨A3, n3, rfl, hn3, hr3⟩ := hl'.rd
    have hn34 : n3 ≤ 4096 := by rw [← hn3, hd'.len, hn']; exact hn4
    have E1 := Lib.hid (E.out wr A3 n3 n3 o hr3 hn3 hn34)
    have F1 := Lib.hid (F.out wr A' m' c' hr' hn' hg')
    have HREL := Lib.hid (And.intro hn' (And.intro hg' (And.intro hd' (And.intro hl' (And.intro hway (And.intro hb' hgg))))))
    obtain ⟨b, hb⟩ : ∃ b, b = o.any longB := ⟨_, rfl⟩
    rw [← hb] at E1
    have HBB := Lib.hid hb
    clear hr' hn' hg' hd' hl' hway hb' hgg hr3 hn3 hb
    cases b with
    | false =>
      have HEND := Lib.hid (HREL.out.2.2.2.2.1 o (.done c' o HREL.out.2.2.1 ((short_iff o).1 HBB.out.symm)))
      go_wp2_with fail
      refine E1.out.mono ?_
      rintro _ w1 ⟨rfl, hw⟩
      subst w1
      go_wp2
      go_ret
      exact ⟨_, o, rfl, HEND.out, HREL.out.2.2.2.1, HREL.out.2.2.2.2.2.1⟩
    | true =>
      have hns : ¬ Short o := fun hs => by
        have := (short_iff o).2 hs
        rw [← HBB.out] at this; cases this
      have HNS := Lib.hid (And.intro hns (deep_less HREL.out.2.2.1 (fun x hx => (HREL.out.2.1 x hx).1) (by rw [HREL.out.1]; exact hn1) hns))
      clear hns
      go_wp2_with fail
      refine E1.out.mono ?_
      rintro _ w1 ⟨rfl, hw⟩
      subst w1
      clear E1
      go_wp2_with fail
      refine F1.out.mono ?_
      rintro _ w4 ⟨v4, rfl, hl4, hb4⟩
      obtain ⟨A4, n4, rfl, hn4', hr4⟩ := hl4.rd
      have hlen4 : (c'.map halfI).length = n := by rw [List.length_map]; exact HREL.out.1
      obtain rfl : n = n4 := by omega
      have G := Lib.hid (D.out w4 A4 n (c'.map halfI) hr4 hlen4 (good_half HREL.out.2.1))
      have HB4 := Lib.hid (HREL.out.2.2.2.2.2.1.trans (hb4.mono HREL.out.2.2.2.2.2.1.size))
      have HR4 := Lib.hid hr4
      have HL4 := Lib.hid hlen4
      clear hl4 hb4 hn4' hr4 F1 hlen4
      go_wp2_with fail
      refine G.out.mono ?_
      rintro _ w5 ⟨v5, o5, rfl, hd5, hl5, hb5⟩
      have HEND := Lib.hid (And.intro (hl5.more (HB4.out.size)) (And.intro hd5 (And.intro (HB4.out.trans (hb5.mono HB4.out.size)) ((HR4.out.below hb5).more hb5.size))))
      clear hd5 hl5 hb5
      go_wp2
      go_roundg ((c'.map halfI).sum.toNat)
      case measure =>
        have h1 := HNS.out.2
        have h2 := (good_sum (good_half HREL.out.2.1)).1
        have h3 := HREL.out.2.2.2.2.2.2
        omega
      case rel => exact ⟨A4, n, c'.map halfI, o5, rfl, HEND.out.2.2.2, HL4.out, good_half HREL.out.2.1, HEND.out.2.1, HEND.out.1, fun r hr => HREL.out.2.2.2.2.1 r (.half c' o r HREL.out.2.2.1 HNS.out.1 hr), HEND.out.2.2.1, rfl⟩
end
end Go.Proofs.YtflcmmeoppdhdaaGreat
