/- Contracts of layer 12: Add. -/
import Derived.Test.YtgbibmgedmbboaaGreatFenUp
import Derived.Test.YtgbibmgedmbboaaGreatFenGet
import Derived.Lib.QuietBelow
namespace Go.Proofs.YtgbibmgedmbboaaGreat
open Go.RowKit Go.Shelf Go.Sort
attribute [local go_sem] Oper.semAt_some

theorem fenUp_any (T p : Nat) (w : World) :
    Calls Tryz.prog 104 #[.pointer (some ⟨T, 0, none⟩), .int .i64 (p : Int)] w fun r w' => r = .returned (.func (.func 109) #[] #[.pointer (some ⟨w.heap.size + 1, 0, none⟩), .pointer (some ⟨w.heap.size, 0, none⟩)]) ∧
      Below w.heap.size w w' ∧ w'.heap.size = w.heap.size + 2 ∧ Boxed w' w.heap.size 129 (.pointer (some ⟨T, 0, none⟩)) ∧ Boxed w' (w.heap.size + 1) 3 (.int .i64 (p : Int)) := by
  go_enter Tryz.func104, Tryz.ntmps104
  go_wp2
  go_ret
  refine ⟨rfl, ((Below.refl _ _).alloc (Nat.le_refl _) _).alloc (by simp) _, by simp, (Boxed.new _ _ _).alloc _, ?_⟩
  have h := Boxed.new (w.alloc (.cells #[.pointer (some ⟨T, 0, none⟩)] 129)) 3 (.int .i64 (p : Int))
  rwa [World.size_alloc] at h

theorem fenAdd_nil (i d : Int) (w : World) :
    Calls Tryz.prog 83 #[.pointer none, .int .i64 i, .int .i64 d] w fun e w' => e = .returned (.int .i64 1) ∧ Below w.heap.size w w' := by
  refine (callsIn_wide (n := 4)).1 ?_
  refine callsIn_of_wp_marks Tryz.func83 rfl trivial ?_ rfl
  simp only [Tryz.ntmps83, List.size_toArray, List.length_cons, List.length_nil, Nat.reduceAdd, Nat.reduceSub, Array.replicate_succ, Array.replicate_zero, List.push_toArray, List.append_toArray, List.nil_append, List.cons_append]
  gi_wp2
  refine ⟨_, results_tmp rfl _ _ _, ?_⟩
  exact ⟨rfl, ((Below.refl _ _).alloc (Nat.le_refl _) _).alloc (by simp) _⟩

/-- What Add lays first. -/
theorem addBoxes (w : World) (v u : Value) : Below w.heap.size w ((w.alloc (.cells #[v] 129)).alloc (.cells #[u] 3)) ∧
    Boxed ((w.alloc (.cells #[v] 129)).alloc (.cells #[u] 3)) w.heap.size 129 v ∧ Boxed ((w.alloc (.cells #[v] 129)).alloc (.cells #[u] 3)) (w.heap.size + 1) 3 u ∧
    ((w.alloc (.cells #[v] 129)).alloc (.cells #[u] 3)).heap.size = w.heap.size + 1 + 1 := by
  refine ⟨((Below.refl _ _).alloc (Nat.le_refl _) _).alloc (by simp) _, (Boxed.new _ _ _).alloc _, ?_, by simp⟩
  have h := Boxed.new (w.alloc (.cells #[v] 129)) 3 u
  rwa [World.size_alloc] at h

set_option maxHeartbeats 2000000 in
theorem fenAdd_out {w : World} {T S : Nat} {c : List Int} (i d : Int) (h : IsTree w T S c) (hi : ¬ (0 ≤ i ∧ i < c.length)) :
    Calls Tryz.prog 83 #[.pointer (some ⟨T, 0, none⟩), .int .i64 i, .int .i64 d] w fun e w' => e = .returned (.int .i64 3) ∧ Below w.heap.size w w' := by
  obtain ⟨hb1, hbt, hbd, hsz⟩ := addBoxes w (.pointer (some ⟨T, 0, none⟩)) (.int .i64 d)
  obtain ⟨w1, hw1⟩ : ∃ w1, w1 = (w.alloc (.cells #[.pointer (some ⟨T, 0, none⟩)] 129)).alloc (.cells #[.int .i64 d] 3) := ⟨_, rfl⟩
  have HW1 := Lib.hid hw1
  rw [← hw1] at hb1 hbt hbd hsz
  have hl := h.2.grow hb1
  have ch := fun d os => (fenHas_any i (hl.grow (below_regrown w1 d os)) h.1.1.2)
  rw [decide_eq_false hi] at ch
  have cH := fun d os => Calls.regrown_of ((ch d os).mono fun _ _ h => ⟨h.1, h.2 ▸ Below.refl _ _⟩)
  have k1 := cell_regrown hbt.cell
  have CH := Lib.hid cH
  have HB1 := Lib.hid hb1
  clear h hl ch cH hw1 hb1
  refine (callsIn_wide (n := 4)).1 ?_
  refine callsIn_of_wp_marks Tryz.func83 rfl trivial ?_ rfl
  simp only [Tryz.ntmps83, List.size_toArray, List.length_cons, List.length_nil, Nat.reduceAdd, Nat.reduceSub, Array.replicate_succ, Array.replicate_zero, List.push_toArray, List.append_toArray, List.nil_append, List.cons_append]
  gi_wp2
  rw [← HW1.out]
  refine wpIn_wide.2 ?_
  refine wp_region_quiet_below (by kernel_rfl) (by kernel_rfl) ?_
  repeat (quiet_step (exact CH.out _ _))
  refine wpQuiet_nil ?_
  intro _ hw'
  obtain ⟨⟨dq, osq⟩, hw''⟩ := hw'
  subst hw''
  gi_wp2
  refine ⟨_, results_tmp rfl _ _ _, ?_⟩
  exact ⟨rfl, HB1.out.trans ((below_regrown w1 dq osq).mono HB1.out.size)⟩
set_option maxHeartbeats 2000000 in
theorem fenAdd_low {w : World} {T S : Nat} {c : List Int} (k : Nat) (d : Int) (h : IsTree w T S c) (hk : k < c.length) (hd : d < -c[k]) :
    Calls Tryz.prog 83 #[.pointer (some ⟨T, 0, none⟩), .int .i64 (k : Int), .int .i64 d] w fun e w' => e = .returned (.int .i64 3) ∧ Below w.heap.size w w' := by
  obtain ⟨hb1, hbt, hbd, hsz⟩ := addBoxes w (.pointer (some ⟨T, 0, none⟩)) (.int .i64 d)
  obtain ⟨w1, hw1⟩ : ∃ w1, w1 = (w.alloc (.cells #[.pointer (some ⟨T, 0, none⟩)] 129)).alloc (.cells #[.int .i64 d] 3) := ⟨_, rfl⟩
  have HW1 := Lib.hid hw1
  rw [← hw1] at hb1 hbt hbd hsz
  have hl := h.2.grow hb1
  have ch := fun d os => (fenHas_any (k : Int) (hl.grow (below_regrown w1 d os)) h.1.1.2)
  rw [decide_eq_true (show 0 ≤ (k : Int) ∧ (k : Int) < c.length by omega)] at ch
  have cH := fun d os => Calls.regrown_of ((ch d os).mono fun _ _ h => ⟨h.1, h.2 ▸ Below.refl _ _⟩)
  have cG := fun d os => Calls.regrown_of (fenGet_at k ((h.grow hb1).grow (below_regrown w1 d os)) hk)
  have k1 := cell_regrown hbt.cell
  have k2 := cell_regrown hbd.cell
  have hT1 := hl.tb.cell 1
  simp only [List.getElem?_cons_zero, List.getElem?_cons_succ] at hT1
  have k3 := cell_regrown hT1
  have x0 := h.1.2.1 _ (List.getElem_mem hk)
  have x1 : c[k] ≤ 65536 := by
    have h1 := fPre_succ c k hk
    have h2 := fPre_le h.1.2.1 (k + 1)
    have h3 := fPre_nn h.1.2.1 k
    have := h.1.2.2
    omega
  obtain ⟨ck, hck⟩ : ∃ ck, ck = c[k] := ⟨_, rfl⟩
  rw [← hck] at cG x0 x1 hd
  have t0 := sum_nn12 h.1.2.1
  have t1 := h.1.2.2
  obtain ⟨tot, htot⟩ : ∃ tot, tot = c.sum := ⟨_, rfl⟩
  rw [← htot] at k3 t0 t1 hT1
  have hq1 : decide (d < IntKind.i64.wrap (-ck)) = true := by rw [decide_eq_true_eq, IntKind.wrap_i64]; omega
  have CH := Lib.hid cH
  have CG := Lib.hid cG
  have HB1 := Lib.hid hb1
  clear h hl ch cH cG hw1 hb1 hck htot hT1 hbt hbd k3 t0 t1
  refine (callsIn_wide (n := 4)).1 ?_
  refine callsIn_of_wp_marks Tryz.func83 rfl trivial ?_ rfl
  simp only [Tryz.ntmps83, List.size_toArray, List.length_cons, List.length_nil, Nat.reduceAdd, Nat.reduceSub, Array.replicate_succ, Array.replicate_zero, List.push_toArray, List.append_toArray, List.nil_append, List.cons_append]
  gi_wp2
  rw [← HW1.out]
  refine wpIn_wide.2 ?_
  refine wp_region_quiet_below (by kernel_rfl) (by kernel_rfl) ?_
  repeat (quiet_step (first | exact CH.out _ _ | exact CG.out _ _))
  refine wpQuiet_nil ?_
  intro _ hw'
  obtain ⟨⟨dq, osq⟩, hw''⟩ := hw'
  subst hw''
  gi_wp2
  refine ⟨_, results_tmp rfl _ _ _, ?_⟩
  exact ⟨rfl, HB1.out.trans ((below_regrown w1 dq osq).mono HB1.out.size)⟩

set_option maxHeartbeats 2000000 in
theorem fenAdd_high {w : World} {T S : Nat} {c : List Int} (k : Nat) (d : Int) (h : IsTree w T S c) (hk : k < c.length) (hd : -c[k] ≤ d) (hd2 : 65536 - c.sum < d) :
    Calls Tryz.prog 83 #[.pointer (some ⟨T, 0, none⟩), .int .i64 (k : Int), .int .i64 d] w fun e w' => e = .returned (.int .i64 3) ∧ Below w.heap.size w w' := by
  obtain ⟨hb1, hbt, hbd, hsz⟩ := addBoxes w (.pointer (some ⟨T, 0, none⟩)) (.int .i64 d)
  obtain ⟨w1, hw1⟩ : ∃ w1, w1 = (w.alloc (.cells #[.pointer (some ⟨T, 0, none⟩)] 129)).alloc (.cells #[.int .i64 d] 3) := ⟨_, rfl⟩
  have HW1 := Lib.hid hw1
  rw [← hw1] at hb1 hbt hbd hsz
  have hl := h.2.grow hb1
  have ch := fun d os => (fenHas_any (k : Int) (hl.grow (below_regrown w1 d os)) h.1.1.2)
  rw [decide_eq_true (show 0 ≤ (k : Int) ∧ (k : Int) < c.length by omega)] at ch
  have cH := fun d os => Calls.regrown_of ((ch d os).mono fun _ _ h => ⟨h.1, h.2 ▸ Below.refl _ _⟩)
  have cG := fun d os => Calls.regrown_of (fenGet_at k ((h.grow hb1).grow (below_regrown w1 d os)) hk)
  have k1 := cell_regrown hbt.cell
  have k2 := cell_regrown hbd.cell
  have hT1 := hl.tb.cell 1
  simp only [List.getElem?_cons_zero, List.getElem?_cons_succ] at hT1
  have k3 := cell_regrown hT1
  have x0 := h.1.2.1 _ (List.getElem_mem hk)
  have x1 : c[k] ≤ 65536 := by
    have h1 := fPre_succ c k hk
    have h2 := fPre_le h.1.2.1 (k + 1)
    have h3 := fPre_nn h.1.2.1 k
    have := h.1.2.2
    omega
  obtain ⟨ck, hck⟩ : ∃ ck, ck = c[k] := ⟨_, rfl⟩
  rw [← hck] at cG x0 x1 hd
  have t0 := sum_nn12 h.1.2.1
  have t1 := h.1.2.2
  obtain ⟨tot, htot⟩ : ∃ tot, tot = c.sum := ⟨_, rfl⟩
  rw [← htot] at k3 t0 t1 hT1
  rw [← htot] at hd2
  have hq1 : decide (d < IntKind.i64.wrap (-ck)) = false := by rw [decide_eq_false_iff_not, IntKind.wrap_i64]; omega
  have hq2 : decide (IntKind.i64.wrap (65536 - tot) < d) = true := by rw [decide_eq_true_eq, IntKind.wrap_i64]; omega
  have CH := Lib.hid cH
  have CG := Lib.hid cG
  have HB1 := Lib.hid hb1
  clear h hl ch cH cG hw1 hb1 hck htot hT1 hbt hbd
  refine (callsIn_wide (n := 4)).1 ?_
  refine callsIn_of_wp_marks Tryz.func83 rfl trivial ?_ rfl
  simp only [Tryz.ntmps83, List.size_toArray, List.length_cons, List.length_nil, Nat.reduceAdd, Nat.reduceSub, Array.replicate_succ, Array.replicate_zero, List.push_toArray, List.append_toArray, List.nil_append, List.cons_append]
  gi_wp2
  rw [← HW1.out]
  refine wpIn_wide.2 ?_
  refine wp_region_quiet_below (by kernel_rfl) (by kernel_rfl) ?_
  repeat (quiet_step (first | exact CH.out _ _ | exact CG.out _ _))
  refine wpQuiet_nil ?_
  intro _ hw'
  obtain ⟨⟨dq, osq⟩, hw''⟩ := hw'
  subst hw''
  gi_wp2
  refine ⟨_, results_tmp rfl _ _ _, ?_⟩
  exact ⟨rfl, HB1.out.trans ((below_regrown w1 dq osq).mono HB1.out.size)⟩
end Go.Proofs.YtgbibmgedmbboaaGreat
