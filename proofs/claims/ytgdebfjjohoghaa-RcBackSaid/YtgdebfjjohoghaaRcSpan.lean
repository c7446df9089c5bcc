/- Layer 17: the span: step, may, settled, cut, narrow (over any function that is handed on). -/
import Derived.Test.YtgdebfjjohoghaaRcMath
import Derived.Test.YtgdebfjjohoghaaRcState
import Derived.Test.YtgdebfjjohoghaaRcRef
import Derived.Test.YtgdebfjjohoghaaInts
import Derived.Deep.QuietTactic
import Derived.Deep.LoopGhost
namespace Go.Proofs.Ytgdebfjjohoghaa
open Go.RowKit Go.Sort

section
variable {w : World} {g : Nat} {t : TypeId} {L R : Nat} {rest : List Value}
set_option maxHeartbeats 1000000 in
set_option maxRecDepth 100000 in
theorem spStep_bad (total : Int) (h : total < 1 ∨ 65536 < total) (v : Value) :
    Calls Try.prog 29 #[v, .int .i64 total] w fun e w' => e = .returned (.int .u32 0) ∧ w' = w := by
  by_cases h1 : total < 1
  · clear h
    go_enter Try.func29, Try.ntmps29
    go_wp2
    go_ret
    exact ⟨rfl, rfl⟩
  · have h2 : 65536 < total := by omega
    clear h
    go_enter Try.func29, Try.ntmps29
    go_wp2
    go_ret
    exact ⟨rfl, rfl⟩
set_option maxHeartbeats 1000000 in
set_option maxRecDepth 100000 in
theorem spStep_ok (T : Nat) (h1 : 1 ≤ T) (h2 : T ≤ 65536) (hR : R < 4294967296) (hb : w.cell? ⟨g, 1, none⟩ = some (.int .u32 (R : Int))) :
    Calls Try.prog 29 #[.pointer (some ⟨g, 0, none⟩), .int .i64 (T : Int)] w fun e w' => e = .returned (.int .u32 ((R / T : Nat) : Int)) ∧ w' = w := by
  have hle : R / T ≤ R := Nat.div_le_self _ _
  obtain ⟨r, hr⟩ : ∃ r, r = R / T := ⟨_, rfl⟩
  rw [← hr] at hle ⊢
  have hd : (R : Int) / (T : Int) = (r : Int) := by rw [hr]; exact (Int.natCast_ediv _ _).symm
  have hw : IntKind.u32.wrap ((R : Int) / (T : Int)) = (r : Int) := by rw [hd, IntKind.wrap_u32]; omega
  have ht : IntKind.u32.wrap (T : Int) = (T : Int) := by rw [IntKind.wrap_u32]; omega
  have t0 : ¬ (T : Int) = 0 := by omega
  have t1 : ¬ (T : Int) < 1 := by omega
  have t2 : ¬ 65536 < (T : Int) := by omega
  have t3 : ¬ T = 0 := by omega
  clear hr hle hd h1 h2 hR
  go_enter Try.func29, Try.ntmps29
  go_wp2
  go_ret
  exact ⟨by first | rfl | rw [hw], rfl⟩
set_option maxHeartbeats 1000000 in
set_option maxRecDepth 100000 in
theorem spMay_any (low size total : Int) (hs : size ≤ 9223372036854775807) (hR : 65536 ≤ R) (hR2 : R < 4294967296) (hb : w.cell? ⟨g, 1, none⟩ = some (.int .u32 (R : Int))) :
    Calls Try.prog 22 #[.pointer (some ⟨g, 0, none⟩), .int .i64 low, .int .i64 size, .int .i64 total] w fun e w' => e = .returned (.bool (mayP low size total)) ∧ w' = w := by
  by_cases h1 : 0 ≤ low
  · by_cases h2 : 1 ≤ size
    · by_cases h3 : total < 1 ∨ 65536 < total
      · have HQ := Lib.hid (show mayP low size total = false by simp only [mayP, Bool.and_eq_false_iff, decide_eq_false_iff_not]; omega)
        have C1 := Lib.hid (spStep_bad (w := w) total h3 (.pointer (some ⟨g, 0, none⟩)))
        clear h3
        go_enter Try.func22, Try.ntmps22
        go_wp2_with fail
        refine C1.out.mono ?_
        rintro _ _ ⟨rfl, rfl⟩
        go_wp2
        go_ret
        exact ⟨by rw [HQ.out]; rfl, rfl⟩
      · obtain ⟨T, rfl⟩ := Int.eq_ofNat_of_zero_le (show 0 ≤ total by omega)
        have hT1 : 1 ≤ T := by omega
        have hT2 : T ≤ 65536 := by omega
        have hr : 0 < R / T := Nat.div_pos (by omega) (by omega)
        have C1 := Lib.hid (spStep_ok (w := w) (g := g) T hT1 hT2 hR2 hb)
        obtain ⟨r, hrr⟩ : ∃ r, r = R / T := ⟨_, rfl⟩
        rw [← hrr] at C1 hr
        have hri : (0 : Int) < (r : Int) := by omega
        have hw : wrap64 ((T : Int) - size) = (T : Int) - size := IntWalk.wrap64_in _ (by omega)
        by_cases h4 : low ≤ (T : Int) - size
        · have HQ := Lib.hid (show mayP low size T = true by simp only [mayP, Bool.and_eq_true, decide_eq_true_eq]; omega)
          clear h3 hT1 hT2 hrr
          go_enter Try.func22, Try.ntmps22
          go_wp2_with fail
          refine C1.out.mono ?_
          rintro _ _ ⟨rfl, rfl⟩
          go_wp2
          go_ret
          exact ⟨by rw [HQ.out]; rfl, rfl⟩
        · have HQ := Lib.hid (show mayP low size T = false by simp only [mayP, Bool.and_eq_false_iff, decide_eq_false_iff_not]; omega)
          have h5 : decide (low ≤ (T : Int) - size) = false := by simp; omega
          clear h3 hT1 hT2 hrr h4
          go_enter Try.func22, Try.ntmps22
          go_wp2_with fail
          refine C1.out.mono ?_
          rintro _ _ ⟨rfl, rfl⟩
          go_wp2
          go_ret
          exact ⟨by rw [HQ.out]; rfl, rfl⟩
    · have HQ := Lib.hid (show mayP low size total = false by simp [mayP, h2])
      go_enter Try.func22, Try.ntmps22
      go_wp2
      go_ret
      exact ⟨by rw [HQ.out]; rfl, rfl⟩
  · have HQ := Lib.hid (show mayP low size total = false by simp [mayP, h1])
    go_enter Try.func22, Try.ntmps22
    go_wp2
    go_ret
    exact ⟨by rw [HQ.out]; rfl, rfl⟩
/-- What the walk says of the highest bytes. -/
theorem same_vals32 {L R : Nat} (hL : L < 4294967296) : ∃ x m y : Nat, IntKind.u32.wrap ((L : Int) / 16777216) = (x : Int) ∧ IntKind.u32.wrap ((L : Int) + (R : Int)) = (m : Int) ∧ IntKind.u32.wrap ((m : Int) / 16777216) = (y : Int) ∧ (SameB L R ↔ x = y) ∧ x = L / 16777216 ∧ x < 256 := by
  refine ⟨L / 16777216, (L + R) % 4294967296, (L + R) % 4294967296 / 16777216, ?_, ?_, ?_, Iff.rfl, rfl, by omega⟩
  · rw [IntKind.wrap_u32]; omega
  · rw [IntKind.wrap_u32]; omega
  · rw [IntKind.wrap_u32]; omega
set_option maxHeartbeats 1000000 in
set_option maxRecDepth 100000 in
theorem spSettled_any (hL : L < 4294967296) (hc0 : w.cell? ⟨g, 0, none⟩ = some (.int .u32 (L : Int))) (hc1 : w.cell? ⟨g, 1, none⟩ = some (.int .u32 (R : Int))) :
    Calls Try.prog 30 #[.pointer (some ⟨g, 0, none⟩)] w fun e w' => e = .returned (.bool (decide (SameB L R))) ∧ w' = w.drew := by
  obtain ⟨x, m, y, e1, e2, e3, e4, e5, e6⟩ := same_vals32 (R := R) hL
  have hxy : ((x : Int) == (y : Int)) = decide (SameB L R) := by
    by_cases h : SameB L R
    · rw [e4.1 h]; simp [h]
    · simp [h]; intro he; exact h (e4.2 (by omega))
  obtain ⟨s, hs⟩ : ∃ s, s = decide (SameB L R) := ⟨_, rfl⟩
  rw [← hs] at hxy ⊢
  clear hs e4 e5 e6 hL
  go_enter Try.func30, Try.ntmps30
  go_wp2
  refine wp_region_still_lit (by kernel_rfl) (by kernel_rfl) ?_
  repeat still_step
  refine wpStill_nil ?_
  change Exit.then _ _ _ _ w.drew
  clear e1 e2 e3
  go_wp2
  go_ret
  exact ⟨rfl, rfl⟩
set_option maxHeartbeats 1000000 in
set_option maxRecDepth 100000 in
theorem spCut_no (hR : 65536 ≤ R) (hc1 : w.cell? ⟨g, 1, none⟩ = some (.int .u32 (R : Int))) :
    Calls Try.prog 31 #[.pointer (some ⟨g, 0, none⟩)] w fun e w' => e = .returned (.bool false) ∧ w' = w := by
  have h : decide ((65536 : Int) ≤ (R : Int)) = true := by simp; omega
  clear hR
  go_enter Try.func31, Try.ntmps31
  go_wp2
  go_ret
  exact ⟨rfl, rfl⟩
set_option maxHeartbeats 1000000 in
set_option maxRecDepth 100000 in
theorem spCut_yes (hL : L < 4294967296) (hR : R < 65536) (hc0 : w.cell? ⟨g, 0, none⟩ = some (.int .u32 (L : Int))) (hc1 : w.cell? ⟨g, 1, none⟩ = some (.int .u32 (R : Int))) (hf1 : w.frozen? ⟨g, 1, none⟩ = false) :
    Calls Try.prog 31 #[.pointer (some ⟨g, 0, none⟩)] w fun e w' => e = .returned (.bool true) ∧ w' = w.setCell ⟨g, 1, none⟩ (.int .u32 ((65536 - L % 65536 : Nat) : Int)) := by
  have h : decide ((65536 : Int) ≤ (R : Int)) = false := by simp; omega
  obtain ⟨m, hm⟩ : ∃ m, m = L % 65536 := ⟨_, rfl⟩
  obtain ⟨c, hc⟩ : ∃ c, c = 65536 - L % 65536 := ⟨_, rfl⟩
  have e1 : (L : Int).tmod 65536 = (m : Int) := by rw [Int.tmod_eq_emod_of_nonneg (by omega)]; omega
  have e2 : (L : Int) % 65536 = (m : Int) := by omega
  have e3 : IntKind.u32.wrap (65536 - (m : Int)) = (c : Int) := by rw [IntKind.wrap_u32]; omega
  rw [← hc]
  clear hR hm hc hL
  go_enter Try.func31, Try.ntmps31
  go_wp2
  go_ret
  exact ⟨rfl, rfl⟩
end
end Go.Proofs.Ytgdebfjjohoghaa
