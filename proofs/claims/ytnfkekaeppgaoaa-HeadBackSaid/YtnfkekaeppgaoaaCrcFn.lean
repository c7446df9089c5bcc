/- Contracts of layer 3, the functions that reckon with registers: step, ref.Steps, ref.More, ref.Of, ref.Join. -/
import Derived.Test.YtnfkekaeppgaoaaProg
import Derived.Test.YtnfkekaeppgaoaaBase
import Derived.Test.YtnfkekaeppgaoaaCrcMath
namespace Go.Proofs.Ytnfkekaeppgaoaa
open Go.RowKit

theorem xor_u32 (a b : BitVec 32) : bits .xor .u32 (a.toNat : Int) (b.toNat : Int) = ((a ^^^ b).toNat : Int) := by
  rw [u32_xor_nat a.toNat b.toNat a.isLt b.isLt, BitVec.toNat_xor]
theorem lsb_mod (r : BitVec 32) : r.getLsbD 0 = decide (r.toNat % 2 = 1) := by
  rw [← BitVec.testBit_toNat, Nat.testBit_zero]
theorem and1_u32 (r : BitVec 32) : bits .and .u32 (r.toNat : Int) 1 = if r.getLsbD 0 then 1 else 0 := by
  rw [show (1 : Int) = ((1 : Nat) : Int) from rfl, u32_and_nat r.toNat 1 r.isLt (by decide), lsb_mod, Nat.and_one_is_mod]
  by_cases h : r.toNat % 2 = 1
  · simp [h]
  · have : r.toNat % 2 = 0 := by omega
    simp [this]
theorem half_u32 (r : BitVec 32) : (r.toNat : Int) / (2 : Int) = ((r >>> 1).toNat : Int) := by
  rw [BitVec.toNat_ushiftRight, Nat.shiftRight_eq_div_pow]; omega
theorem step_odd (r : BitVec 32) (h : r.getLsbD 0 = true) : bits .xor .u32 ((r.toNat : Int) / (2 : Int)) 3988292384 = ((step r).toNat : Int) := by
  have e : (3988292384 : Int) = (poly.toNat : Int) := by decide
  rw [half_u32, e, xor_u32]
  unfold step
  rw [h, if_pos rfl]
theorem step_even (r : BitVec 32) (h : r.getLsbD 0 = false) : (r.toNat : Int) / (2 : Int) = ((step r).toNat : Int) := by
  rw [half_u32]
  unfold step
  rw [h]
  rfl

set_option maxHeartbeats 400000 in
theorem crcStep_any (r : BitVec 32) (w : World) :
    Calls Try.prog 45 #[.int .u32 (r.toNat : Int)] w fun e w' => e = .returned (.int .u32 ((step r).toNat : Int)) ∧ w = w' := by
  have ha := and1_u32 r
  have hlt : (r.toNat : Int) ≤ 4294967295 := by have := r.isLt; omega
  cases hb : r.getLsbD 0 with
  | true =>
    have ht : (bits .and .u32 (r.toNat : Int) 1 == 1) = true := by rw [ha, hb]; rfl
    have HB := Lib.hid hb
    clear ha hb
    go_enter Try.func45, Try.ntmps45
    go_wp2
    go_ret
    exact ⟨ret_int (step_odd r HB.out), rfl⟩
  | false =>
    have ht : (bits .and .u32 (r.toNat : Int) 1 == 1) = false := by rw [ha, hb]; rfl
    have HB := Lib.hid hb
    clear ha hb
    go_enter Try.func45, Try.ntmps45
    go_wp2
    go_ret
    exact ⟨ret_int (step_even r HB.out), rfl⟩

/-- What holds at the head of a round of ref.Steps: so many steps are done. -/
def StepsRel (n : Nat) (F : BitVec 32) (t i : Value) : Prop := ∃ (k : Nat) (x : BitVec 32), k ≤ n ∧ t = .int .u32 (x.toNat : Int) ∧ i = .int .i64 k ∧ Hid (steps (n - k) x = F)
theorem StepsRel.next {n k : Nat} {x F : BitVec 32} (h : Hid (steps (n - k) x = F)) (hk : k < n) : Hid (steps (n - (k + 1)) (step x) = F) := by
  have := h.out
  rw [show n - k = (n - (k + 1)) + 1 by omega] at this
  exact this

set_option maxHeartbeats 400000 in
theorem refSteps_any (r : BitVec 32) (n : Nat) (w : World) (hn : n ≤ 9223372036854775807) :
    Calls Try.prog 47 #[.int .u32 (r.toNat : Int), .int .i64 n] w fun e w' => e = .returned (.int .u32 ((steps n r).toNat : Int)) ∧ w = w' := by
  obtain ⟨F, hF⟩ : ∃ F, F = steps n r := ⟨_, rfl⟩
  rw [← hF]
  have HF : Hid (steps (n - 0) r = F) := hF.symm
  clear hF
  go_enter Try.func47, Try.ntmps47
  go_wp2
  go_loop [0, 5] (StepsRel n F) (fun _ i => n - (intOf i).toNat)
  case atStart => exact ⟨0, r, Nat.zero_le _, rfl, rfl, HF⟩
  case round =>
    obtain ⟨k, x, hk, rfl, rfl, Hrel⟩ := hrel
    have hx0 : (0 : Int) ≤ (x.toNat : Int) := by omega
    have hx1 : (x.toNat : Int) ≤ 4294967295 := by have := x.isLt; omega
    by_cases hlt : k < n
    · have Hn := StepsRel.next Hrel hlt
      clear Hrel
      cases hb : x.getLsbD 0 with
      | true =>
        have hs := step_odd x hb
        have ht : ((x.toNat : Int) % 2 == 1) = true := by
          rw [lsb_mod] at hb; simp only [decide_eq_true_eq] at hb; rw [beq_iff_eq]; omega
        have HS := Lib.hid hs
        clear hs hb
        go_wp2
        go_round
        case rel => exact ⟨k + 1, step x, by omega, by rw [HS.out], by go_num, Hn⟩
        case measure => simp [intOf]; omega
      | false =>
        have hs := step_even x hb
        have ht : ((x.toNat : Int) % 2 == 1) = false := by
          rw [lsb_mod] at hb; simp only [decide_eq_false_iff_not] at hb; rw [beq_eq_false_iff_ne]; omega
        have HS := Lib.hid hs
        clear hs hb
        go_wp2
        go_round
        case rel => exact ⟨k + 1, step x, by omega, by rw [HS.out], by go_num, Hn⟩
        case measure => simp [intOf]; omega
    · obtain rfl : k = n := by omega
      have HF' : Hid (x = F) := by have := Hrel.out; rwa [Nat.sub_self] at this
      clear Hrel
      go_wp2
      go_ret
      exact ⟨ret_int (by rw [HF'.out]), rfl⟩
end Go.Proofs.Ytnfkekaeppgaoaa
