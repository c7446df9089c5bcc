/- Layer 24: a new mixer. -/
import Derived.Test.YtnghcfogigglmaaMixFn
namespace Go.Proofs.Ytnghcfogigglmaa
open Go.RowKit Go.Sort

theorem mixNew_bad (n : Int) (w : World) (h : ¬ (1 ≤ n ∧ n ≤ 8)) : Calls Try.prog 15 #[.int .i64 n] w fun e w' => e = .returned (.pointer none) ∧ w' = w := by
  by_cases h1 : n < 1
  · clear h
    go_enter Try.func15, Try.ntmps15
    go_wp2
    go_ret
    exact ⟨rfl, rfl⟩
  · have h2 : 8 < n := by omega
    clear h
    go_enter Try.func15, Try.ntmps15
    go_wp2
    go_ret
    exact ⟨rfl, rfl⟩
/-- The first k of n weights are laid. -/
def newM (n k : Nat) : List Int := List.replicate k 64 ++ List.replicate (n - k) 0
theorem newM_len {n k : Nat} (h : k ≤ n) : (newM n k).length = n := by simp [newM]; omega
theorem newM_set {n k : Nat} (h : k < n) : (newM n k).set k 64 = newM n (k + 1) := by
  obtain ⟨d, hd⟩ : ∃ d, n - k = d + 1 := ⟨n - k - 1, by omega⟩
  unfold newM
  rw [hd, show n - (k + 1) = d by omega, List.set_append_right _ _ (by simp), List.length_replicate, Nat.sub_self, List.replicate_succ (n := d), List.set_cons_zero, List.replicate_succ' (n := k), List.append_assoc]
  rfl
theorem newM_all (n : Nat) : newM n n = List.replicate n 64 := by simp [newM]
theorem newM_zero {n : Nat} (h : n ≤ 8) : zvs (padM n (newM n 0)) = [.int .i64 0, .int .i64 0, .int .i64 0, .int .i64 0, .int .i64 0, .int .i64 0, .int .i64 0, .int .i64 0, .int .i64 (n : Int)] := by
  have e : newM n 0 ++ List.replicate (8 - n) 0 = List.replicate 8 0 := by
    unfold newM
    rw [List.replicate_zero, List.nil_append, List.replicate_append_replicate, show n - 0 + (8 - n) = 8 by omega]
  unfold padM
  rw [e]
  rfl
set_option maxHeartbeats 1000000 in
theorem mixNew_any (n : Nat) (w : World) (h : 1 ≤ n ∧ n ≤ 8) : Calls Try.prog 15 #[.int .i64 (n : Int)] w fun e w' => ∃ F, e = .returned (.pointer (some ⟨F, 0, none⟩)) ∧ IsMix w' F n (List.replicate n 64) ∧ w.heap.size ≤ F ∧ Below w.heap.size w w' := by
  obtain ⟨h1, h2⟩ := h
  have a1 : ¬ ((n : Int) < 1) := by omega
  have a2 : ¬ ((8 : Int) < (n : Int)) := by omega
  obtain ⟨w1, hw1⟩ : ∃ w1, w1 = w.alloc (.cells #[.int .i64 0, .int .i64 0, .int .i64 0, .int .i64 0, .int .i64 0, .int .i64 0, .int .i64 0, .int .i64 0, .int .i64 (n : Int)] 64) := ⟨_, rfl⟩
  have hb1 : Below w.heap.size w w1 := by rw [hw1]; exact (Below.refl _ _).alloc (Nat.le_refl _) _
  have hk1 : Blk w1 w.heap.size 64 (zvs (padM n (newM n 0))) := by rw [hw1, newM_zero h2]; exact heap_alloc_new w _
  obtain ⟨F, hF⟩ : ∃ F, F = w.heap.size := ⟨_, rfl⟩
  rw [← hF] at hk1
  have H1 := Lib.hid (And.intro hb1 hk1)
  have HW := Lib.hid (And.intro hw1 hF)
  have HFL := Lib.hid (show w.heap.size ≤ F by omega)
  clear hb1 hk1 hw1 hF
  go_enter Try.func15, Try.ntmps15
  go_wp2
  rw [← HW.out.1, ← HW.out.2]
  go_loopw [15] (fun ii wr => ∃ k : Nat, k ≤ n ∧ ii = .int .i64 (k : Int) ∧ Blk wr F 64 (zvs (padM n (newM n k))) ∧ Below w.heap.size w wr) (fun ii _ => n - (intOf ii).toNat)
  case atStart => exact ⟨0, Nat.zero_le _, rfl, H1.out.2, H1.out.1⟩
  case round =>
    clear H1 HW
    obtain ⟨k, hk, rfl, hf, hb⟩ := hrel
    have HB := Lib.hid hb
    have HF := Lib.hid hf
    by_cases hlt : k < n
    · have hki : (k : Int) < (n : Int) := by omega
      have hk8 : k < 8 := by omega
      have hlen := newM_len hk
      have c2 := (hf.cell k).trans (padM_at hlen hlt)
      have f2 := hf.frozen k
      have hset := hf.set_ k (.int .i64 64)
      rw [padM_set hlen hlt, newM_set hlt] at hset
      have HS := Lib.hid hset
      have HB2 := Lib.hid (hb.setCell (p := ⟨F, k, none⟩) HFL.out (.int .i64 64))
      obtain ⟨x, hx⟩ : ∃ x, x = (newM n k)[k]'(by omega) := ⟨_, rfl⟩
      rw [← hx] at c2
      clear hset hf hb hx hlen
      go_wp2
      go_roundw
      case rel => exact ⟨k + 1, by omega, by go_num, HS.out, HB2.out⟩
      case measure => simp [intOf]; omega
    · obtain rfl : k = n := by omega
      have hall := HF.out
      rw [newM_all] at hall
      have HALL := Lib.hid hall
      clear hf hb hall
      go_wp2
      go_ret
      exact ⟨F, rfl, ⟨HALL.out, WtsM.first _, h1, h2⟩, HFL.out, HB.out⟩
end Go.Proofs.Ytnghcfogigglmaa
