/- Layer 19: the program's counts: first, parameter, behind. -/
import Derived.Test.YtfdgnhfppginiaaRiceRef
namespace Go.Proofs.Ytfdgnhfppginiaa
open Go.RowKit Go.Sort

theorem pcnt_size : (Try.prog.info? 68).map (·.size) = some 2 := by kernel_rfl
theorem pcnt_end {w' : World} {p : Nat} {tmps : Array Value} {fn : Func} {q : Tmp} (hres : fn.results = #[.cell q 68]) {v0 v1 : Value} (hp : tmps.getD q undef = .pointer (some ⟨p, 0, none⟩)) (hk : Blk w' p 68 [v0, v1]) : (results fn tmps).run Try.prog w' = .ok (.agg #[v0, v1]) w' :=
  results_cell_row hres tmps w' p 68 _ (0, 0) _ hp hk Try.underlying68 rfl pcnt_size
theorem riceFirst_any (w : World) : Calls Try.prog 35 #[] w fun e w' => e = .returned (cntV 16 1) ∧ Below w.heap.size w w' := by
  go_enter Try.func35, Try.ntmps35
  go_wp2
  exact bodyPost_ret (v := cntV 16 1) (pcnt_end Try.results35 rfl (heap_alloc_new w _)) rfl ⟨rfl, (Below.refl _ _).alloc (Nat.le_refl _) _⟩
/-- What holds at the head of a round of parameter. -/
def ParRel (w : World) (B A N k : Nat) (i : Value) (wr : World) : Prop :=
  ∃ j : Nat, j ≤ k ∧ i = .int .i64 (j : Int) ∧ Blk wr B 68 [.int .u64 (A : Int), .int .u64 (N : Int)] ∧ Below w.heap.size w wr
set_option maxHeartbeats 1000000 in
theorem ricePar_any {D A N k : Nat} (h : CountsOk D A N) (hk : IsK A N k) (w : World) :
    Calls Try.prog 84 #[cntV A N] w fun e w' => e = .returned (.int .i64 (k : Int)) ∧ Below w.heap.size w w' := by
  have hk33 := isK_few h hk
  have HK := Lib.hid hk
  have hN := h.2.1
  have hN1 := h.1
  have hA : A ≤ 133143986192 := by obtain ⟨g1, g2, g3, g4⟩ := h; omega
  have hb := (Below.refl w.heap.size w).alloc (Nat.le_refl _) (.cells #[.int .u64 (A : Int), .int .u64 (N : Int)] 68)
  have hbl : Blk (w.alloc (.cells #[.int .u64 (A : Int), .int .u64 (N : Int)] 68)) w.heap.size 68 [.int .u64 (A : Int), .int .u64 (N : Int)] := heap_alloc_new w _
  have HREL := Lib.hid (show ParRel w w.heap.size A N k (.int .i64 ((0 : Nat) : Int)) _ from ⟨0, Nat.zero_le _, rfl, hbl, hb⟩)
  clear h hk hb hbl
  unfold cntV
  go_enter Try.func84, Try.ntmps84
  go_wp2
  go_loopw [3] (ParRel w w.heap.size A N k) (fun i _ => k - (intOf i).toNat)
  case atStart => exact HREL.out
  case round =>
    clear HREL
    obtain ⟨j, hj, rfl, hbl, hb⟩ := hrel
    have hp2 : 2 ^ j ≤ 8589934592 := Nat.pow_le_pow_right (n := 2) (by decide) (show j ≤ 33 by omega)
    have hNP : N * 2 ^ j ≤ 31 * 8589934592 := Nat.mul_le_mul hN hp2
    have hlt := HK.out.2 j
    have hle := HK.out.1
    have hc0 := hbl.cell 0
    have hc1 := hbl.cell 1
    simp only [List.getElem?_cons_zero, List.getElem?_cons_succ] at hc0 hc1
    have hj0 : (0 : Int) ≤ (j : Int) := by omega
    have HBL := Lib.hid hbl
    have HB := Lib.hid hb
    obtain ⟨M, hM⟩ : ∃ M, M = N * 2 ^ j := ⟨_, rfl⟩
    have hw : IntKind.u64.wrap ((N : Int) * 2 ^ j) = (M : Int) := by
      have e : (N : Int) * 2 ^ j = (M : Int) := by rw [hM]; simp
      rw [e, IntKind.wrap_u64]; omega
    by_cases hjk : j < k
    · have hMA : (M : Int) < (A : Int) := by have := hlt hjk; omega
      clear hM hp2 hNP hlt hle hN hN1 hbl hb hA
      go_wp2
      go_quiet (fail)
      go_wp2
      go_roundw
      case rel => exact ⟨j + 1, by omega, by go_num, HBL.out.same rfl, below_drewN HB.out _⟩
      case measure => simp [intOf]; omega
    · obtain rfl : j = k := by omega
      have hMA : ¬ (M : Int) < (A : Int) := by omega
      clear hM hp2 hNP hlt hle hN hN1 hjk hbl hb hA
      go_wp2
      go_quiet (fail)
      go_wp2
      go_ret
      exact ⟨rfl, below_drewN HB.out _⟩
set_option maxHeartbeats 1000000 in
theorem riceBeh_any {A N v : Nat} (hA : A ≤ 1000000000000) (hN : N ≤ 31) (hv : v < 18446744073709551616) (w : World) :
    Calls Try.prog 86 #[cntV A N, .int .u64 (v : Int)] w fun e w' => e = .returned (cntV (behindA A N v) (behindN N)) ∧ Below w.heap.size w w' := by
  have HE := Lib.hid (fun (a b : Int) (h1 : a = ((behindA A N v : Nat) : Int)) (h2 : b = ((behindN N : Nat) : Int)) => show (Value.agg #[.int .u64 a, .int .u64 b]) = cntV (behindA A N v) (behindN N) by unfold cntV; rw [h1, h2])
  by_cases hN2 : N + 1 = 32
  · have hi : ¬ (N : Int) + 1 < 32 := by omega
    have e1 : ((A : Int) + min (v : Int) 4294967296) / 2 = ((behindA A N v : Nat) : Int) := by unfold behindA; rw [if_pos hN2]; omega
    have e2 : ((N : Int) + 1) / 2 = ((behindN N : Nat) : Int) := by unfold behindN; rw [if_pos hN2]; omega
    obtain ⟨a, ha⟩ : ∃ a, a = behindA A N v := ⟨_, rfl⟩
    obtain ⟨b, hbb⟩ : ∃ b, b = behindN N := ⟨_, rfl⟩
    rw [← ha] at e1 HE ⊢
    rw [← hbb] at e2 HE ⊢
    have E1 := Lib.hid e1
    have E2 := Lib.hid e2
    clear ha hbb e1 e2
    change Calls Try.prog 86 #[.agg #[.int .u64 (A : Int), .int .u64 (N : Int)], .int .u64 (v : Int)] w _
    go_enter Try.func86, Try.ntmps86
    go_wp2
    (try simp only [Exit.inBlock, Exit.then])
    exact bodyPost_ret (v := cntV a b) (by rw [← HE.out _ _ E1.out E2.out]; exact pcnt_end (p := w.heap.size + 1) Try.results86 rfl (by rw [← World.size_alloc]; exact heap_alloc_new _ _)) rfl ⟨rfl, ((Below.refl _ _).alloc (Nat.le_refl _) _).alloc (by simp) _⟩
  · have hi : (N : Int) + 1 < 32 := by omega
    have e1 : (A : Int) + min (v : Int) 4294967296 = ((behindA A N v : Nat) : Int) := by unfold behindA; rw [if_neg hN2]; omega
    have e2 : (N : Int) + 1 = ((behindN N : Nat) : Int) := by unfold behindN; rw [if_neg hN2]; omega
    obtain ⟨a, ha⟩ : ∃ a, a = behindA A N v := ⟨_, rfl⟩
    obtain ⟨b, hbb⟩ : ∃ b, b = behindN N := ⟨_, rfl⟩
    rw [← ha] at e1 HE ⊢
    rw [← hbb] at e2 HE ⊢
    have E1 := Lib.hid e1
    have E2 := Lib.hid e2
    clear ha hbb e1 e2
    change Calls Try.prog 86 #[.agg #[.int .u64 (A : Int), .int .u64 (N : Int)], .int .u64 (v : Int)] w _
    go_enter Try.func86, Try.ntmps86
    go_wp2
    (try simp only [Exit.inBlock, Exit.then])
    exact bodyPost_ret (v := cntV a b) (by rw [← HE.out _ _ E1.out E2.out]; exact pcnt_end (p := w.heap.size + 1) Try.results86 rfl (by rw [← World.size_alloc]; exact heap_alloc_new _ _)) rfl ⟨rfl, ((Below.refl _ _).alloc (Nat.le_refl _) _).alloc (by simp) _⟩
end Go.Proofs.Ytfdgnhfppginiaa
