/- Layer 19: the reference's counts: Begin, K, Behind. -/
import Derived.Test.YtfdgnhfppginiaaRiceMath
import Derived.Test.YtfdgnhfppginiaaInts
namespace Go.Proofs.Ytfdgnhfppginiaa
open Go.RowKit Go.Sort

/-- Two counts, as a value. -/
def cntV (A N : Nat) : Value := .agg #[.int .u64 (A : Int), .int .u64 (N : Int)]
theorem cnt_size : (Try.prog.info? 89).map (·.size) = some 2 := by kernel_rfl
theorem cnt_end {w' : World} {p : Nat} {tmps : Array Value} {fn : Func} {q : Tmp} (hres : fn.results = #[.cell q 89]) {v0 v1 : Value} (hp : tmps.getD q undef = .pointer (some ⟨p, 0, none⟩)) (hk : Blk w' p 89 [v0, v1]) : (results fn tmps).run Try.prog w' = .ok (.agg #[v0, v1]) w' :=
  results_cell_row hres tmps w' p 89 _ (0, 0) _ hp hk Try.underlying89 rfl cnt_size
set_option maxRecDepth 100000 in
theorem riceBegin_any (w : World) : Calls Try.prog 51 #[] w fun e w' => e = .returned (cntV 16 1) ∧ Below w.heap.size w w' := by
  go_enter Try.func51, Try.ntmps51
  go_wp2
  exact bodyPost_ret (v := cntV 16 1) (cnt_end Try.results51 rfl (heap_alloc_new w _)) rfl ⟨rfl, (Below.refl _ _).alloc (Nat.le_refl _) _⟩
theorem isK_few {D A N k : Nat} (h : CountsOk D A N) (hk : IsK A N k) : k ≤ 33 := by
  refine Nat.le_of_not_lt fun hlt => ?_
  have h1 := hk.2 33 hlt
  obtain ⟨g1, g2, g3, g4⟩ := h
  rw [show (2 : Nat) ^ 33 = 8589934592 by decide] at h1
  omega
set_option maxRecDepth 100000 in
set_option maxHeartbeats 1000000 in
theorem riceK_any {D A N k : Nat} (h : CountsOk D A N) (hk : IsK A N k) (w : World) :
    Calls Try.prog 52 #[cntV A N] w fun e w' => e = .returned (.tuple #[.int .i64 (k : Int), .int .u64 ((2 ^ k : Nat) : Int)]) ∧ Below w.heap.size w w' := by
  have hk33 := isK_few h hk
  have HK := Lib.hid hk
  have hN := h.2.1
  have hN1 := h.1
  have hA : A ≤ 133143986192 := by obtain ⟨g1, g2, g3, g4⟩ := h; omega
  have hb := (Below.refl w.heap.size w).alloc (Nat.le_refl _) (.cells #[.int .u64 (A : Int), .int .u64 (N : Int)] 89)
  have HB := Lib.hid hb
  clear h hk hb
  unfold cntV
  go_enter Try.func52, Try.ntmps52
  go_wp2
  go_loop [4, 5] (fun i p => ∃ j : Nat, j ≤ k ∧ i = .int .i64 (j : Int) ∧ p = .int .u64 ((2 ^ j : Nat) : Int)) (fun i _ => k - (intOf i).toNat)
  case atStart => exact ⟨0, Nat.zero_le _, rfl, rfl⟩
  case round =>
    obtain ⟨j, hj, rfl, rfl⟩ := hrel
    have hp2 : 2 ^ j ≤ 8589934592 := Nat.pow_le_pow_right (n := 2) (by decide) (show j ≤ 33 by omega)
    have hps : 2 ^ (j + 1) = 2 * 2 ^ j := by rw [Nat.pow_succ]; omega
    have hNP : N * 2 ^ j ≤ 31 * 8589934592 := Nat.mul_le_mul hN hp2
    have hlt := HK.out.2 j
    have hle := HK.out.1
    by_cases hjk : j < k
    · have hlt2 := hlt hjk
      obtain ⟨P, hP⟩ : ∃ P, P = 2 ^ j := ⟨_, rfl⟩
      rw [← hP] at hp2 hps hNP hlt2 ⊢
      obtain ⟨M, hM⟩ : ∃ M, M = N * P := ⟨_, rfl⟩
      rw [← hM] at hNP hlt2
      have hw : IntKind.u64.wrap ((N : Int) * (P : Int)) = (M : Int) := by rw [← Int.natCast_mul, ← hM, IntKind.wrap_u64]; omega
      have HPS := Lib.hid hps
      have hMA : (M : Int) < (A : Int) := by omega
      clear hP hM hps hlt hle hlt2 hN hN1
      go_wp2
      go_round
      case rel => exact ⟨j + 1, by omega, by go_num, by rw [HPS.out]; simp⟩
      case measure => simp [intOf]; omega
    · obtain rfl : j = k := by omega
      obtain ⟨P, hP⟩ : ∃ P, P = 2 ^ j := ⟨_, rfl⟩
      rw [← hP] at hp2 hle hNP ⊢
      obtain ⟨M, hM⟩ : ∃ M, M = N * P := ⟨_, rfl⟩
      rw [← hM] at hNP hle
      have hw : IntKind.u64.wrap ((N : Int) * (P : Int)) = (M : Int) := by rw [← Int.natCast_mul, ← hM, IntKind.wrap_u64]; omega
      have hMA : ¬ (M : Int) < (A : Int) := by omega
      have HPP := Lib.hid hP
      clear hP hM hps hlt hle hN hN1 hjk
      go_wp2
      go_ret2
      exact ⟨by rw [show ((2 : Int) ^ j) = (P : Int) by rw [HPP.out]; simp]; rfl, HB.out⟩
set_option maxRecDepth 100000 in
set_option maxHeartbeats 1000000 in
theorem riceBehind_any {A N v : Nat} (hA : A ≤ 1000000000000) (hN : N ≤ 31) (hv : v < 18446744073709551616) (w : World) :
    Calls Try.prog 56 #[cntV A N, .int .u64 (v : Int)] w fun e w' => e = .returned (cntV (behindA A N v) (behindN N)) ∧ Below w.heap.size w w' := by
  have hb1 := (Below.refl w.heap.size w).alloc (Nat.le_refl _) (.cells #[.int .u64 (A : Int), .int .u64 (N : Int)] 89)
  have hs1 : w.heap.size + 1 = (w.alloc (.cells #[.int .u64 (A : Int), .int .u64 (N : Int)] 89)).heap.size := by simp
  have HE := Lib.hid (fun (a b : Int) (h1 : a = ((behindA A N v : Nat) : Int)) (h2 : b = ((behindN N : Nat) : Int)) => show (Value.agg #[.int .u64 a, .int .u64 b]) = cntV (behindA A N v) (behindN N) by unfold cntV; rw [h1, h2])
  by_cases hN2 : N + 1 = 32
  · have e1 : ((A : Int) + min (v : Int) 4294967296) / 2 = ((behindA A N v : Nat) : Int) := by unfold behindA; rw [if_pos hN2]; omega
    have e2 : ((N : Int) + 1) / 2 = ((behindN N : Nat) : Int) := by unfold behindN; rw [if_pos hN2]; omega
    obtain ⟨a, ha⟩ : ∃ a, a = behindA A N v := ⟨_, rfl⟩
    obtain ⟨b, hbb⟩ : ∃ b, b = behindN N := ⟨_, rfl⟩
    rw [← ha] at e1 HE ⊢
    rw [← hbb] at e2 HE ⊢
    have E1 := Lib.hid e1
    have E2 := Lib.hid e2
    have HS := Lib.hid hs1
    have HB := Lib.hid hb1
    clear ha hbb e1 e2 hs1 hb1
    change Calls Try.prog 56 #[.agg #[.int .u64 (A : Int), .int .u64 (N : Int)], .int .u64 (v : Int)] w _
    go_enter Try.func56, Try.ntmps56
    go_wp2
    (try simp only [Exit.inBlock, Exit.then])
    exact bodyPost_ret (v := cntV a b) (by rw [← HE.out _ _ E1.out E2.out]; exact cnt_end (p := w.heap.size + 1) Try.results56 rfl (by rw [HS.out]; exact heap_alloc_new _ _)) rfl ⟨rfl, HB.out.trans (((Below.refl _ _).alloc (Nat.le_refl _) _).mono HB.out.size)⟩
  · have e1 : (A : Int) + min (v : Int) 4294967296 = ((behindA A N v : Nat) : Int) := by unfold behindA; rw [if_neg hN2]; omega
    have e2 : (N : Int) + 1 = ((behindN N : Nat) : Int) := by unfold behindN; rw [if_neg hN2]; omega
    obtain ⟨a, ha⟩ : ∃ a, a = behindA A N v := ⟨_, rfl⟩
    obtain ⟨b, hbb⟩ : ∃ b, b = behindN N := ⟨_, rfl⟩
    rw [← ha] at e1 HE ⊢
    rw [← hbb] at e2 HE ⊢
    have E1 := Lib.hid e1
    have E2 := Lib.hid e2
    have HS := Lib.hid hs1
    have HB := Lib.hid hb1
    clear ha hbb e1 e2 hs1 hb1
    change Calls Try.prog 56 #[.agg #[.int .u64 (A : Int), .int .u64 (N : Int)], .int .u64 (v : Int)] w _
    go_enter Try.func56, Try.ntmps56
    go_wp2
    (try simp only [Exit.inBlock, Exit.then])
    exact bodyPost_ret (v := cntV a b) (by rw [← HE.out _ _ E1.out E2.out]; exact cnt_end (p := w.heap.size + 1) Try.results56 rfl (by rw [HS.out]; exact heap_alloc_new _ _)) rfl ⟨rfl, HB.out.trans (((Below.refl _ _).alloc (Nat.le_refl _) _).mono HB.out.size)⟩
end Go.Proofs.Ytfdgnhfppginiaa
