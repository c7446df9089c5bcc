/- Contracts of layer 9's reference: Window, power. -/
import Derived.Test.YtcenbaajojdjlaaGreatDoorGorWin
namespace Go.Proofs.YtcenbaajojdjlaaGreatDoor
open Go.RowKit

/-- What holds at the head of a round of the loop that counts the noughts below. -/
def RBelRel (x : Nat) (c v : Value) : Prop := ∃ j : Nat, j ≤ belowN x ∧ c = .int .i64 (j : Int) ∧ v = .int .u64 ((x / 2 ^ j : Nat) : Int)
/-- .. of the loop that counts the bits -/
def RHighRel (x : Nat) (c v : Value) : Prop := ∃ j : Nat, j ≤ Lib.bitLen x ∧ c = .int .i64 (j : Int) ∧ v = .int .u64 ((x / 2 ^ j : Nat) : Int)
theorem div_two (x j : Nat) : ((x / 2 ^ j : Nat) : Int) / 2 = ((x / 2 ^ (j + 1) : Nat) : Int) := by
  rw [Nat.pow_succ, ← Nat.div_div_eq_div_mul]
  omega
theorem wrap_div {x : Nat} (hx : x < 2 ^ 64) (j : Nat) : IntKind.u64.wrap ((x / 2 ^ j : Nat) : Int) = ((x / 2 ^ j : Nat) : Int) := by
  have := Nat.div_le_self x (2 ^ j)
  generalize x / 2 ^ j = q at *
  rw [IntKind.wrap_u64]
  omega
theorem below_par {x j : Nat} (h0 : x ≠ 0) (hx : x < 2 ^ 64) (hj : j ≤ belowN x) : (x / 2 ^ j) % 2 = if j < belowN x then 0 else 1 := by
  obtain ⟨m, hm, hk⟩ := Lib.ctzFrom_spec 64 x (by omega) hx
  have hb : belowN x = Lib.ctzFrom 64 x := by unfold belowN Lib.ctz; rw [if_neg h0]
  rw [← hb] at hm hk
  obtain ⟨d, hd⟩ : ∃ d, belowN x = j + d := ⟨belowN x - j, by omega⟩
  have e : x / 2 ^ j = 2 ^ d * (2 * m + 1) := by
    refine Nat.div_eq_of_eq_mul_right (Nat.two_pow_pos _) ?_
    rw [← Nat.mul_assoc, ← Nat.pow_add, ← hd]
    exact hm
  rw [e]
  cases d with
  | zero =>
    rw [if_neg (by omega)]
    omega
  | succ d =>
    rw [if_pos (by omega), Nat.pow_succ, Nat.mul_comm (2 ^ d) 2, Nat.mul_assoc]
    omega
theorem high_pos {x j : Nat} (h0 : x ≠ 0) (hx : x < 2 ^ 64) : 0 < x / 2 ^ j ↔ j < Lib.bitLen x := by
  obtain ⟨h1, h2, h3⟩ := Lib.bitLenAux_bounds 64 x hx h0
  have hL : Lib.bitLenAux 64 x = Lib.bitLen x := rfl
  rw [hL] at h1 h2 h3
  constructor
  · intro h
    rcases Nat.lt_or_ge j (Lib.bitLen x) with g | g
    · exact g
    · have := Nat.pow_le_pow_right (n := 2) (by decide) g
      rw [Nat.div_eq_of_lt (by omega)] at h
      omega
  · intro h
    have : 2 ^ j ≤ 2 ^ (Lib.bitLen x - 1) := Nat.pow_le_pow_right (by decide) (by omega)
    exact Nat.div_pos (by omega) (Nat.two_pow_pos _)
set_option maxHeartbeats 2000000 in
set_option maxRecDepth 100000 in
theorem rWindow_any {W : Nat} (hW : IsW W) (x : Nat) (h0 : x ≠ 0) (hx : x < 256 ^ W) (w : World) :
    Calls Tryz.prog 101 #[.int .u64 (x : Int), .int .i64 (W : Int)] w fun e w' => e = .returned (.tuple #[.int .i64 (aboveN W x : Nat), .int .i64 (belowN x : Nat)]) ∧ w' = w := by
  have hp := hW.pos
  obtain ⟨f1, f2, f3, f4, f5, f6, f7, f8⟩ := own_facts hp.2 h0 hx
  have hx64 : x < 2 ^ 64 := Nat.lt_of_lt_of_le hx (by rcases hW with rfl | rfl | rfl | rfl <;> decide)
  have c1 := refMask_any (W : Int) w (by omega)
  rw [maskW hW] at c1
  have ha := and_maskW hW hx
  obtain ⟨M, hM⟩ : ∃ M, M = 256 ^ W - 1 := ⟨_, rfl⟩
  rw [← hM] at c1 ha
  have C1 := Lib.hid c1
  have hx1 : ((x : Int) == 0) = false := by rw [beq_eq_false_iff_ne]; omega
  have HB := Lib.hid (fun j (hj : j ≤ belowN x) => below_par h0 hx64 hj)
  have HH := Lib.hid (fun j => high_pos (j := j) h0 hx64)
  have hL : (Lib.bitLen x : Int) ≤ 64 := by omega
  have hb64 : (belowN x : Int) < 64 := by omega
  have HXB := Lib.hid hx64
  have HF := Lib.hid (And.intro f2 (And.intro f3 hp))
  clear c1 hM f1 f2 f3 f4 f5 f6 f7 f8 hx hx64 h0 hp hW
  go_enter Tryz.func101, Tryz.ntmps101
  go_wp2_with fail
  refine C1.out.mono ?_
  rintro e w' ⟨rfl, rfl⟩
  go_wp2_with fail
  go_loop [7, 8] (RBelRel x) (fun c _ => belowN x - (intOf c).toNat)
  case atStart => exact ⟨0, Nat.zero_le _, rfl, by rw [Nat.pow_zero, Nat.div_one]⟩
  case round =>
    obtain ⟨j, hj, rfl, rfl⟩ := hrel
    have hpar := HB.out j hj
    obtain ⟨y, hy⟩ : ∃ y, y = x / 2 ^ j := ⟨_, rfl⟩
    have hd := div_two x j
    rw [← hy] at hpar hd
    rw [← hy]
    have hji : (j : Int) < 64 := by omega
    by_cases hlt : j < belowN x
    · rw [if_pos hlt] at hpar
      have hpi : ((y : Int) % 2 == 0) = true := by rw [beq_iff_eq]; omega
      have HD := Lib.hid hd
      have HLT := Lib.hid hlt
      clear hpar hy hd hlt hj
      go_wp2_with fail
      go_round
      case rel => exact ⟨j + 1, HLT.out, by go_num, by rw [HD.out, wrap_div HXB.out]⟩
      case measure => have := HLT.out; simp [intOf]; omega
    · rw [if_neg hlt] at hpar
      have hpi : ((y : Int) % 2 == 0) = false := by rw [beq_eq_false_iff_ne]; omega
      have hjb : j = belowN x := by omega
      have HJ := Lib.hid hjb
      clear hpar hy hd hlt hj hjb
      go_wp2_with fail
      go_loop [9, 10] (RHighRel x) (fun c _ => Lib.bitLen x - (intOf c).toNat)
      case atStart => exact ⟨0, Nat.zero_le _, rfl, by rw [Nat.pow_zero, Nat.div_one]⟩
      case round =>
        obtain ⟨i, hi, rfl, rfl⟩ := hrel
        have hpos := HH.out i
        obtain ⟨z, hz⟩ : ∃ z, z = x / 2 ^ i := ⟨_, rfl⟩
        have hd := div_two x i
        rw [← hz] at hpos hd
        rw [← hz]
        have hii : (i : Int) ≤ 64 := by omega
        by_cases hlt : i < Lib.bitLen x
        · have hpi : (0 : Int) < (z : Int) := by have := hpos.2 hlt; omega
          have HD := Lib.hid hd
          have HLT := Lib.hid hlt
          clear hpos hz hd hi
          go_wp2_with fail
          go_round
          case rel => exact ⟨i + 1, HLT.out, by go_num, by rw [HD.out, wrap_div HXB.out]⟩
          case measure => have := HLT.out; simp [intOf]; omega
        · have hpi : ¬ (0 : Int) < (z : Int) := by
            intro hc
            exact hlt (hpos.1 (by omega))
          have hib : i = Lib.bitLen x := by omega
          have HI := Lib.hid hib
          have hf := HF.out
          clear hpos hz hd hi hib hlt
          have hwi : (W : Int) ≤ 8 := by omega
          have HF2 := Lib.hid hf
          clear hf
          go_wp2_with fail
          go_ret2
          have hf := HF2.out
          have e1 := HI.out
          have e2 := HJ.out
          refine ⟨?_, rfl⟩
          rw [← e2, show 8 * (W : Int) - (i : Int) = (aboveN W x : Int) by omega]
          rfl
theorem pow_step {k n : Nat} (hk : k < n) (hn : n ≤ 63) : IntKind.u64.wrap (2 * ((2 ^ k : Nat) : Int)) = ((2 ^ (k + 1) : Nat) : Int) := by
  have h := Nat.pow_le_pow_right (n := 2) (by decide) (show k + 1 ≤ 63 by omega)
  have e : 2 * ((2 ^ k : Nat) : Int) = ((2 ^ (k + 1) : Nat) : Int) := by rw [Nat.pow_succ]; omega
  rw [e]
  generalize 2 ^ (k + 1) = q at *
  rw [IntKind.wrap_u64]
  omega
def PowRel (n : Nat) (v i : Value) : Prop := ∃ k : Nat, k ≤ n ∧ i = .int .i64 (k : Int) ∧ v = .int .u64 ((2 ^ k : Nat) : Int)
set_option maxHeartbeats 1000000 in
theorem power_any (n : Nat) (hn : n ≤ 63) (w : World) : Calls Tryz.prog 81 #[.int .i64 (n : Int)] w fun e w' => e = .returned (.int .u64 ((2 ^ n : Nat) : Int)) ∧ w' = w := by
  have hni : (n : Int) ≤ 63 := by omega
  obtain ⟨T, hT⟩ : ∃ T, T = 2 ^ n := ⟨_, rfl⟩
  rw [← hT]
  have HT := Lib.hid hT
  clear hT
  go_enter Tryz.func81, Tryz.ntmps81
  go_wp2_with fail
  go_loop [3, 4] (PowRel n) (fun _ i => n - (intOf i).toNat)
  case atStart => exact ⟨0, Nat.zero_le _, rfl, rfl⟩
  case round =>
    obtain ⟨k, hk, rfl, rfl⟩ := hrel
    by_cases hlt : k < n
    · have hs := pow_step hlt hn
      obtain ⟨q, hq⟩ : ∃ q, q = 2 ^ k := ⟨_, rfl⟩
      rw [← hq] at hs
      rw [← hq]
      have HS := Lib.hid hs
      have hki : (k : Int) < (n : Int) := by omega
      clear hs hq
      go_wp2_with fail
      go_round
      case rel => exact ⟨k + 1, hlt, by go_num, by rw [HS.out]⟩
      case measure => simp [intOf]; omega
    · obtain rfl : k = n := by omega
      rw [← HT.out]
      clear hlt
      go_wp2_with fail
      go_ret
      exact ⟨rfl, rfl⟩
end Go.Proofs.YtcenbaajojdjlaaGreatDoor
