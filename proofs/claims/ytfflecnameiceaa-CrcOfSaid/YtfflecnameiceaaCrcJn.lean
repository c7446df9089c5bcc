/- Contract of layer 3's Join. -/
import Derived.Test.YtfflecnameiceaaCrcJoin
namespace Go.Proofs.Ytfflecnameiceaa
open Go.RowKit

/-- What holds at the head of a round that squares the leap three times. -/
def Jn1 (w : World) (L : Nat) (i : Value) (wr : World) : Prop :=
  ∃ k j : Nat, k ≤ 3 ∧ i = .int .i64 k ∧ Hid (j = 2 ^ k) ∧ Blk wr L 55 (leapC (steps j)) ∧ Below w.heap.size w wr
/-- What holds at the head of a round that leaps. -/
def Jn2 (w : World) (L : Nat) (T : BitVec 32) (t n : Value) (wr : World) : Prop :=
  ∃ (x : BitVec 32) (z : Int) (j : Nat), t = .int .u32 (x.toNat : Int) ∧ n = .int .i64 z ∧ -9223372036854775808 ≤ z ∧ z ≤ 9223372036854775807 ∧ Hid (steps (j * z.toNat) x = T) ∧ Blk wr L 55 (leapC (steps j)) ∧ Below w.heap.size w wr
theorem jn_odd (j : Nat) (z : Int) (x : BitVec 32) (h0 : 0 < z) (h : z % 2 = 1) : steps (2 * j * (z / 2).toNat) (steps j x) = steps (j * z.toNat) x := by
  rw [← steps_add]
  congr 1
  have e : z.toNat = 2 * (z / 2).toNat + 1 := by omega
  rw [e, Nat.mul_add, Nat.mul_one, ← Nat.mul_assoc, Nat.mul_comm 2 j]
  omega
theorem jn_even (j : Nat) (z : Int) (x : BitVec 32) (h0 : 0 < z) (h : z % 2 = 0) : steps (2 * j * (z / 2).toNat) x = steps (j * z.toNat) x := by
  congr 1
  have e : z.toNat = 2 * (z / 2).toNat := by omega
  rw [e, ← Nat.mul_assoc, Nat.mul_comm 2 j]

set_option maxHeartbeats 1000000 in
set_option maxRecDepth 100000 in
theorem crcJoin_any (a b : BitVec 32) (n : Int) (w : World) (h0 : -9223372036854775808 ≤ n) (h1 : n ≤ 9223372036854775807) :
    Calls Try.prog 17 #[.int .u32 (a.toNat : Int), .int .u32 (b.toNat : Int), .int .i64 n] w fun e w' => e = .returned (.int .u32 ((joinS a b n.toNat).toNat : Int)) ∧ Below w.heap.size w w' := by
  obtain ⟨T, hT⟩ : ∃ T, T = steps (8 * n.toNat) a := ⟨_, rfl⟩
  obtain ⟨J, hJ⟩ : ∃ J, J = joinS a b n.toNat := ⟨_, rfl⟩
  have hTJ : J = T ^^^ b := by rw [hJ, hT]; rfl
  rw [← hJ]
  have HT := Lib.hid hT
  have HTJ := Lib.hid hTJ
  clear hT hJ hTJ
  have hz := zeroLeap
  go_enter Try.func17, Try.ntmps17
  go_wp2_with fail
  refine (leapOfStep_any _).mono ?_
  rintro e w1 ⟨rfl, hb1⟩
  have hg1 : Blk (w1.alloc (.cells lp0 55)) w1.heap.size 55 lp0.toList := heap_alloc_new w1 _
  have hL := hb1.size
  have HB1 := Lib.hid hb1
  clear hb1
  go_wp2_with ((with_reducible show wpList _ _ _ (({ dst := none, op := Op.store _ (.tmp 7) (.tmp 8), type := _, pos := _, after := _, guard := _ } : Oper) :: _) _ _); go_must (refine wpList_store_row rfl 55 (.tmp 7) (.tmp 8) rfl w1.heap.size (leapC step).toArray rfl rfl 55 lp0 hg1 (leap_row step 32) (by simp [lp0, lpC, leapC]) (lp_one step) ?_))
  clear hz
  obtain ⟨L, hLL⟩ : ∃ L, L = w1.heap.size := ⟨_, rfl⟩
  have hst : Hid (Blk ((w1.alloc (.cells lp0 55)).setRow w1.heap.size (leapC step).toArray) w1.heap.size 55 (leapC (steps 1))) := hg1.setRow_ (leapC step)
  have hbt : Hid (Below w.heap.size w ((w1.alloc (.cells lp0 55)).setRow w1.heap.size (leapC step).toArray)) := below_setRow (HB1.out.alloc hL _) hL _
  go_loopw [9] (Jn1 w w1.heap.size) (fun i _ => 3 - (intOf i).toNat)
  case atStart => exact ⟨0, 1, Nat.zero_le _, rfl, rfl, hst, hbt⟩
  case round =>
    obtain ⟨k, j, hk, rfl, HJ, hblk, hb⟩ := hrel
    clear hst hbt hg1 HB1
    by_cases hlt : k < 3
    · go_wp2_with ((with_reducible show wpList _ _ _ (({ dst := some 11, op := _, type := _, pos := _, after := _, guard := _ } : Oper) :: _) _ _); go_must (refine wpList_load_row rfl 55 (.tmp 7) rfl w1.heap.size rfl 55 (leapC (steps j)).toArray (0, 0) _ hblk Try.underlying55 rfl (leap_row (steps j) 32) ?_))
      refine (leapSquared_any (steps j) (lin_steps j) _).mono ?_
      rintro e w2 ⟨rfl, hb2⟩
      have hblk2 := hblk.grow hb2
      have hb3 := hb.trans (hb2.mono hb.size)
      have HB3 := Lib.hid hb3
      have hn : Hid (2 * j = 2 ^ (k + 1)) := by rw [HJ.out, Nat.pow_succ, Nat.mul_comm]; exact rfl
      clear hb3 hb2 hb hblk
      rw [sq_steps]
      go_wp2_with ((with_reducible show wpList _ _ _ (({ dst := none, op := Op.store _ (.tmp 7) (.tmp 12), type := _, pos := _, after := _, guard := _ } : Oper) :: _) _ _); go_must (refine wpList_store_row rfl 55 (.tmp 7) (.tmp 12) rfl w1.heap.size (leapC (steps (2 * j))).toArray rfl rfl 55 (leapC (steps j)).toArray hblk2 (leap_row _ 32) (by simp [lpC, leapC]) (lp_one _) ?_))
      go_roundw
      case rel => exact ⟨k + 1, 2 * j, by omega, by go_num, hn, hblk2.setRow_ _, below_setRow HB3.out hL _⟩
      case measure => simp [intOf]; omega
    · obtain rfl : k = 3 := by omega
      have hj8 : j = 8 := HJ.out
      subst hj8
      have HT2 : Hid (steps (8 * n.toNat) a = T) := HT.out.symm
      clear HJ HT
      rw [show ((3 : Nat) : Int) = 3 from rfl]
      go_wp2
      go_loopw [0, 2] (Jn2 w w1.heap.size T) (fun _ n _ => (intOf n).toNat)
      case atStart => exact ⟨a, n, 8, rfl, rfl, h0, h1, HT2, hblk, hb⟩
      case round =>
        obtain ⟨x, z, j, rfl, rfl, hz0, hz1, Hrel, hblk, hb⟩ := hrel
        clear HT2
        by_cases hp : 0 < z
        · have hpz : 0 ≤ z := by omega
          rcases (show z % 2 = 0 ∨ z % 2 = 1 by omega) with hm | hm
          · have Hn : Hid (steps (2 * j * (z / 2).toNat) x = T) := by rw [jn_even j z x hp hm]; exact Hrel
            have ht : (z % 2 == 1) = false := by rw [hm]; rfl
            clear hm Hrel
            go_wp2_with ((with_reducible show wpList _ _ _ (({ dst := some 24, op := _, type := _, pos := _, after := _, guard := _ } : Oper) :: _) _ _); go_must (refine wpList_load_row rfl 55 (.tmp 7) rfl w1.heap.size rfl 55 (leapC (steps j)).toArray (0, 0) _ hblk Try.underlying55 rfl (leap_row (steps j) 32) ?_))
            refine (leapSquared_any (steps j) (lin_steps j) _).mono ?_
            rintro e w2 ⟨rfl, hb2⟩
            have hblk2 := hblk.grow hb2
            have hb3 := hb.trans (hb2.mono hb.size)
            have HB3 := Lib.hid hb3
            clear hb3 hb2 hb hblk
            rw [sq_steps]
            go_wp2_with ((with_reducible show wpList _ _ _ (({ dst := none, op := Op.store _ (.tmp 7) (.tmp 25), type := _, pos := _, after := _, guard := _ } : Oper) :: _) _ _); go_must (refine wpList_store_row rfl 55 (.tmp 7) (.tmp 25) rfl w1.heap.size (leapC (steps (2 * j))).toArray rfl rfl 55 (leapC (steps j)).toArray hblk2 (leap_row _ 32) (by simp [lpC, leapC]) (lp_one _) ?_))
            go_roundw
            case rel => exact ⟨x, z / 2, 2 * j, rfl, rfl, by omega, by omega, Hn, hblk2.setRow_ _, below_setRow HB3.out hL _⟩
            case measure => simp [intOf]; omega
          · have Hn : Hid (steps (2 * j * (z / 2).toNat) (steps j x) = T) := by rw [jn_odd j z x hp hm]; exact Hrel
            have ht : (z % 2 == 1) = true := by rw [hm]; rfl
            clear hm Hrel
            go_wp2_with ((with_reducible show wpList _ _ _ (({ dst := some 21, op := _, type := _, pos := _, after := _, guard := _ } : Oper) :: _) _ _); go_must (refine wpList_load_row rfl 55 (.tmp 7) rfl w1.heap.size rfl 55 (leapC (steps j)).toArray (0, 0) _ hblk Try.underlying55 rfl (leap_row (steps j) 32) ?_))
            refine (leapOver_any (steps j) (lin_steps j) x _).mono ?_
            rintro e w2 ⟨rfl, hb2⟩
            have hblk2 := hblk.grow hb2
            have hb3 := hb.trans (hb2.mono hb.size)
            clear hb2 hb hblk
            go_wp2_with ((with_reducible show wpList _ _ _ (({ dst := some 24, op := _, type := _, pos := _, after := _, guard := _ } : Oper) :: _) _ _); go_must (refine wpList_load_row rfl 55 (.tmp 7) rfl w1.heap.size rfl 55 (leapC (steps j)).toArray (0, 0) _ hblk2 Try.underlying55 rfl (leap_row (steps j) 32) ?_))
            refine (leapSquared_any (steps j) (lin_steps j) _).mono ?_
            rintro e w3 ⟨rfl, hb4⟩
            have hblk3 := hblk2.grow hb4
            have hb5 := hb3.trans (hb4.mono hb3.size)
            have HB5 := Lib.hid hb5
            clear hb5 hb4 hb3 hblk2
            rw [sq_steps]
            go_wp2_with ((with_reducible show wpList _ _ _ (({ dst := none, op := Op.store _ (.tmp 7) (.tmp 25), type := _, pos := _, after := _, guard := _ } : Oper) :: _) _ _); go_must (refine wpList_store_row rfl 55 (.tmp 7) (.tmp 25) rfl w1.heap.size (leapC (steps (2 * j))).toArray rfl rfl 55 (leapC (steps j)).toArray hblk3 (leap_row _ 32) (by simp [lpC, leapC]) (lp_one _) ?_))
            go_roundw
            case rel => exact ⟨steps j x, z / 2, 2 * j, rfl, rfl, by omega, by omega, Hn, hblk3.setRow_ _, below_setRow HB5.out hL _⟩
            case measure => simp [intOf]; omega
        · have hxT : x = T := by
            have h := Hrel.out
            rw [show z.toNat = 0 by omega, Nat.mul_zero] at h
            exact h
          subst hxT
          have hxor := xor_u32 x b
          rw [← HTJ.out] at hxor
          clear Hrel
          go_wp2
          go_ret
          exact ⟨rfl, hb⟩
end Go.Proofs.Ytfflecnameiceaa
