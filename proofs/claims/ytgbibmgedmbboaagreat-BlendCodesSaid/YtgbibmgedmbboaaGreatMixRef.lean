/- Layer 24: the reference's weights. -/
import Derived.Test.YtgbibmgedmbboaaGreatMixNew
namespace Go.Proofs.YtgbibmgedmbboaaGreat
open Go.RowKit Go.Sort

set_option maxRecDepth 100000 in
theorem xHeld_any (p : Int) (w : World) : Calls Tryz.prog 74 #[.int .i64 p] w fun e w' => e = .returned (.int .i64 (clM p)) ∧ w' = w := by
  by_cases h : p < 0
  · have e : clM p = 0 := by unfold clM; omega
    rw [e]
    go_enter Tryz.func74, Tryz.ntmps74
    go_wp2
    go_ret
    exact ⟨rfl, rfl⟩
  · have e : clM p = min p 65536 := by unfold clM; omega
    rw [e]
    go_enter Tryz.func74, Tryz.ntmps74
    go_wp2
    go_ret
    exact ⟨rfl, rfl⟩
set_option maxRecDepth 100000 in
theorem xAway_any (p bit : Int) (w : World) (h : 0 ≤ p ∧ p ≤ 65536) : Calls Tryz.prog 76 #[.int .i64 p, .int .i64 bit] w fun e w' => e = .returned (.int .i64 (farM p bit)) ∧ w' = w := by
  obtain ⟨h1, h2⟩ := h
  unfold farM
  by_cases hb : bit = 0
  · subst hb
    rw [if_pos rfl]
    go_enter Tryz.func76, Tryz.ntmps76
    go_wp2
    go_ret
    exact ⟨rfl, rfl⟩
  · rw [if_neg hb]
    have hbb : (bit == 0) = false := by simp [hb]
    go_enter Tryz.func76, Tryz.ntmps76
    go_wp2
    go_ret
    exact ⟨rfl, rfl⟩
section
variable {w : World} {B B' n m m' : Nat} {A A' : Option Addr} {W l : List Int}
set_option maxRecDepth 100000 in
set_option maxHeartbeats 1000000 in
theorem xP_any (hw : WtsM n W) (h1 : 1 ≤ n ∧ n ≤ 8) (hr : Rd w B A (zvs W)) (hr' : Rd w B' A' (zvs l)) (hl : l.length = n) :
    Calls Tryz.prog 39 #[.slice A n m, .slice A' n m'] w fun e w' => e = .returned (.int .i64 (mixM W l)) ∧ ∃ j, w' = w.drewN j := by
  have HW := Lib.hid hw
  have HR := Lib.hid hr
  have HR' := Lib.hid hr'
  have HL := Lib.hid hl
  have CH := Lib.hid (fun p w => xHeld_any p w)
  clear hr hr' hl hw
  go_enter Tryz.func39, Tryz.ntmps39
  go_wp2
  go_loopw [5, 6, 7] (fun ss tt ii wr => ∃ k : Nat, k ≤ n ∧ ss = .int .i64 (dotM (W.take k) (l.take k)) ∧ tt = .int .i64 (W.take k).sum ∧ ii = .int .i64 (k : Int) ∧ ∃ j, wr = w.drewN j) (fun _ _ ii _ => n - (intOf ii).toNat)
  case atStart => exact ⟨0, Nat.zero_le _, by simp [dotM], by simp, rfl, 0, rfl⟩
  case round =>
    obtain ⟨k, hk, rfl, rfl, rfl, j, hwj⟩ := hrel
    have hh : wr.heap = w.heap := by rw [hwj]; rfl
    have HWJ := Lib.hid (show ∃ j, wr = w.drewN j from ⟨j, hwj⟩)
    clear hwj
    have hpart := dotM_part HW.out HL.out hk
    obtain ⟨S, hS⟩ : ∃ S, S = dotM (W.take k) (l.take k) := ⟨_, rfl⟩
    obtain ⟨T, hT⟩ : ∃ T, T = (W.take k).sum := ⟨_, rfl⟩
    rw [← hS, ← hT] at hpart ⊢
    have HST := Lib.hid (And.intro hS hT)
    clear hS hT
    by_cases hlt : k < n
    · have hkl : k < l.length := by rw [HL.out]; exact hlt
      have hkw : k < W.length := by rw [HW.out.len]; exact hlt
      obtain ⟨ab, ao, rfl, -, hc1⟩ := cell_of_rd (rd_same HR'.out hh) hkl
      obtain ⟨bb, bo, rfl, -, hc2⟩ := cell_of_rd (rd_same HR.out hh) hkw
      have hwk := HW.out.ok _ (List.getElem_mem hkw)
      have hsn := dotM_snoc hkw hkl
      have htn := sumM_snoc hkw
      rw [← HST.out.1] at hsn
      rw [← HST.out.2] at htn
      obtain ⟨x, hx⟩ : ∃ x, x = W[k]'hkw := ⟨_, rfl⟩
      obtain ⟨p, hp⟩ : ∃ p, p = l[k]'hkl := ⟨_, rfl⟩
      rw [← hx] at hc2 hwk hsn htn
      rw [← hp] at hc1 hsn
      have hpc := clM_ok p
      have hm0 := Int.mul_nonneg (show 0 ≤ x by omega) hpc.1
      have hm1 := Int.mul_le_mul hwk.2 hpc.2 hpc.1 (show (0 : Int) ≤ 255 by decide)
      have CP := Lib.hid (CH.out p)
      obtain ⟨c, hc⟩ : ∃ c, c = clM p := ⟨_, rfl⟩
      rw [← hc] at CP hm0 hm1 hsn
      obtain ⟨y, hy⟩ : ∃ y, y = x * c := ⟨_, rfl⟩
      have hw1 : IntKind.i64.wrap (x * c) = y := by rw [hy, IntKind.wrap_i64]; omega
      rw [← hy] at hm0 hm1 hsn
      have hw2 : IntKind.i64.wrap (S + y) = S + y := by rw [IntKind.wrap_i64]; omega
      have HSN := Lib.hid (And.intro hsn htn)
      have hki : (k : Int) < (n : Int) := by omega
      clear hx hp hc hy hkl hkw hpc hsn htn hh
      go_wp2
      go_quiet ((go_at_call 74; exact quietOf fun W _ => CP.out W))
      go_wp2
      refine ⟨⟨k + 1, by omega, by rw [HSN.out.1], by rw [HSN.out.2], by go_num, ?_⟩, by simp [intOf]; omega⟩
      obtain ⟨j, hj⟩ := HWJ.out
      exact ⟨j + nq, by rw [hj, World.drewN_drewN]⟩
    · obtain rfl : k = n := by omega
      have hS : S = dotM W l := by rw [HST.out.1, List.take_of_length_le (by rw [HW.out.len]; exact Nat.le_refl _), List.take_of_length_le (by rw [HL.out]; exact Nat.le_refl _)]
      have hT : T = W.sum := by rw [HST.out.2, List.take_of_length_le (by rw [HW.out.len]; exact Nat.le_refl _)]
      have hM : mixM W l = min (max (S / T) 32) 65504 := by rw [hS, hT]; rfl
      have hT1 : 0 < T := by omega
      have hq0 : 0 ≤ S / T := Int.ediv_nonneg hpart.1 (by omega)
      have hq1 : S / T ≤ 65536 := Int.ediv_le_of_le_mul hT1 hpart.2.1
      have HM := Lib.hid hM
      obtain ⟨q, hq⟩ : ∃ q, q = S / T := ⟨_, rfl⟩
      have hdiv : S.tdiv T = q := by rw [Int.tdiv_eq_ediv_of_nonneg hpart.1, hq]
      rw [← hq] at hq0 hq1 HM
      have hT0 : ¬ (T = 0) := by omega
      have hS0 := hpart.1
      clear hS hT hM hq hpart
      go_wp2
      go_ret
      exact ⟨ret_int HM.out.symm, HWJ.out⟩
end
end Go.Proofs.YtgbibmgedmbboaaGreat
