/- Contracts of layer 4: Mask, of the code and of the reference; small laws of numbers put together. -/
import Derived.Test.YtclhgjjehnmncaaDoorProg
import Derived.Test.YtclhgjjehnmncaaDoorMore
import Derived.Test.YtclhgjjehnmncaaDoorArg
import Derived.Test.YtclhgjjehnmncaaDoorWordMath
import Derived.Test.YtclhgjjehnmncaaDoorWordRight
import Derived.Deep.DeepMust
namespace Go.Proofs.YtclhgjjehnmncaaDoor
open Go.RowKit

theorem wordMask_any (n : Int) (w : World) :
    Calls Tryd.prog 39 #[.int .i64 n] w fun e w' => e = .returned (.int .u64 (maskN n : Int)) ∧ w = w' := by
  cases hr : rightB n with
  | true =>
    rcases (right_iff n).1 hr with rfl | rfl | rfl | rfl
    all_goals
      go_enter Tryd.func39, Tryd.ntmps39
      go_wp2_with (go_at_call 21; go_must (refine (wordRight_any _ true hr.symm _).mono ?_; rintro e w' ⟨rfl, rfl⟩))
      go_ret
      exact ⟨ret_int (by decide), rfl⟩
  | false =>
    have hm : maskN n = 0 := by unfold maskN; rw [hr]; rfl
    rw [hm]
    clear hm
    go_enter Tryd.func39, Tryd.ntmps39
    go_wp2_with (go_at_call 21; go_must (refine (wordRight_any _ false hr.symm _).mono ?_; rintro e w' ⟨rfl, rfl⟩))
    go_ret
    exact ⟨rfl, rfl⟩

/-- What holds at the head of a round of ref.Mask. -/
def MaskRel (W : Nat) (t i : Value) : Prop := ∃ k : Nat, k ≤ W ∧ i = .int .i64 k ∧ t = .int .u64 ((256 ^ k - 1 : Nat) : Int)
theorem mask_step (k W : Nat) (h : k < W) (hW : W ≤ 8) : IntKind.u64.wrap (IntKind.u64.wrap (256 * ((256 ^ k - 1 : Nat) : Int)) + 255) = ((256 ^ (k + 1) - 1 : Nat) : Int) := by
  have h1 : 0 < 256 ^ k := Nat.pow_pos (by decide)
  have h2 : 256 ^ (k + 1) ≤ 256 ^ 8 := Nat.pow_le_pow_right (by decide) (by omega)
  have h3 : (256 : Nat) ^ 8 = 18446744073709551616 := by decide
  rw [h3, Nat.pow_succ] at h2
  rw [Nat.pow_succ, IntKind.wrap_u64, IntKind.wrap_u64]
  generalize 256 ^ k = m at *
  omega

theorem refMask_any (n : Int) (w : World) (h0 : n ≤ 9223372036854775807) :
    Calls Tryd.prog 25 #[.int .i64 n] w fun e w' => e = .returned (.int .u64 (maskN n : Int)) ∧ w = w' := by
  cases hr : rightB n with
  | true =>
    obtain ⟨W, rfl, hW⟩ : ∃ W : Nat, n = (W : Int) ∧ W ≤ 8 := by
      rcases (right_iff n).1 hr with rfl | rfl | rfl | rfl
      · exact ⟨1, rfl, by decide⟩
      · exact ⟨2, rfl, by decide⟩
      · exact ⟨4, rfl, by decide⟩
      · exact ⟨8, rfl, by decide⟩
    have hm : maskN (W : Int) = 256 ^ W - 1 := by unfold maskN; rw [hr]; simp
    rw [hm]
    have c1 := refRight_any (W : Int) true hr.symm
    have C1 := Lib.hid c1
    clear hm c1 hr
    go_enter Tryd.func25, Tryd.ntmps25
    go_wp2
    go_loop [3, 4] (MaskRel W) (fun _ i => W - (intOf i).toNat)
    case atStart => exact ⟨0, Nat.zero_le _, rfl, rfl⟩
    case round =>
      obtain ⟨k, hk, rfl, rfl⟩ := hrel
      by_cases hlt : k < W
      · have hs := mask_step k W hlt hW
        have HS := Lib.hid hs
        obtain ⟨m, hm⟩ : ∃ m, m = 256 ^ k - 1 := ⟨_, rfl⟩
        rw [← hm] at HS
        rw [← hm]
        clear hs hm
        go_wp2_with (go_at_call 18; go_must (refine (C1.out _).mono ?_; rintro e w' ⟨rfl, rfl⟩))
        go_round
        case rel => exact ⟨k + 1, by omega, by go_num, by rw [HS.out]⟩
        case measure => simp [intOf]; omega
      · obtain rfl : k = W := by omega
        go_wp2
        go_ret
        exact ⟨rfl, rfl⟩
  | false =>
    have hm : maskN n = 0 := by unfold maskN; rw [hr]; rfl
    rw [hm]
    have c1 := refRight_any n false hr.symm
    have C1 := Lib.hid c1
    clear hm c1 hr
    by_cases hp : 0 < n
    · go_enter Tryd.func25, Tryd.ntmps25
      go_wp2
      go_loop [3, 4] (MaskRel 0) (fun _ _ => 0)
      case atStart => exact ⟨0, Nat.zero_le _, rfl, rfl⟩
      case round =>
        obtain ⟨k, hk, rfl, rfl⟩ := hrel
        obtain rfl : k = 0 := by omega
        go_wp2_with (go_at_call 18; go_must (refine (C1.out _).mono ?_; rintro e w' ⟨rfl, rfl⟩))
        go_ret
        exact ⟨rfl, rfl⟩
    · go_enter Tryd.func25, Tryd.ntmps25
      go_wp2
      go_loop [3, 4] (MaskRel 0) (fun _ _ => 0)
      case atStart => exact ⟨0, Nat.zero_le _, rfl, rfl⟩
      case round =>
        obtain ⟨k, hk, rfl, rfl⟩ := hrel
        obtain rfl : k = 0 := by omega
        go_wp2
        go_ret
        exact ⟨rfl, rfl⟩

/-- What holds at the head of a round of together: the number of the bytes ahead. -/
def TogRel (K : IntKind) (l : List UInt8) (t i : Value) : Prop := ∃ k : Nat, k ≤ l.length ∧ i = .int .i64 k ∧ t = .int K (leN (l.take k) : Int)


theorem or_join (x y i : Nat) (h1 : x < 2 ^ i) (h2 : y % 2 ^ i = 0) : x ||| y = x + y := by
  rw [Nat.or_comm, nat_join i y x h2 h1, Nat.add_comm]
theorem tog_all (l : List UInt8) (k W : Nat) (h : k < l.length) (hW : l.length ≤ W) :
    leN (l.take k) < 2 ^ (8 * k) ∧ (l[k].toNat * 2 ^ (8 * k)) % 2 ^ (8 * k) = 0 ∧ leN (l.take k) + l[k].toNat * 2 ^ (8 * k) < 256 ^ W ∧ leN (l.take (k + 1)) = leN (l.take k) + l[k].toNat * 2 ^ (8 * k) := by
  have hp : (2 : Nat) ^ (8 * k) = 256 ^ k := by rw [Nat.pow_mul]
  have hl : (l.take k).length = k := by rw [List.length_take]; omega
  have h1 := leN_lt (l.take k)
  rw [hl] at h1
  have e : leN (l.take (k + 1)) = leN (l.take k) + l[k].toNat * 256 ^ k := by
    rw [List.take_succ_eq_append_getElem h, leN_snoc, hl]
  have h2 := leN_lt (l.take (k + 1))
  have h3 : 256 ^ (l.take (k + 1)).length ≤ 256 ^ W := Nat.pow_le_pow_right (by decide) (by rw [List.length_take]; omega)
  rw [hp]
  exact ⟨h1, Nat.mul_mod_left _ _, by omega, e⟩
theorem tog_u8 (l : List UInt8) (k : Nat) (h : k < l.length) (hW : l.length ≤ 1) : bits .or .u8 (leN (l.take k) : Int) ((l[k].toNat : Int) * 2 ^ (8 * k) % 256) = (leN (l.take (k + 1)) : Int) := by
  obtain ⟨h1, h2, h3, h4⟩ := tog_all l k 1 h hW
  have h5 : (256 : Nat) ^ 1 = 256 := by decide
  rw [h5] at h3
  have e : (l[k].toNat : Int) * 2 ^ (8 * k) = ((l[k].toNat * 2 ^ (8 * k) : Nat) : Int) := by simp
  rw [e, h4]
  generalize l[k].toNat * 2 ^ (8 * k) = y at *
  generalize leN (l.take k) = x at *
  have hm : (y : Int) % 256 = (y : Int) := by omega
  rw [hm, u8_or_nat x y (by omega) (by omega), or_join x y (8 * k) h1 h2]
theorem tog_u16 (l : List UInt8) (k : Nat) (h : k < l.length) (hW : l.length ≤ 2) : bits .or .u16 (leN (l.take k) : Int) (IntKind.u16.wrap ((l[k].toNat : Int) * 2 ^ (8 * k))) = (leN (l.take (k + 1)) : Int) := by
  obtain ⟨h1, h2, h3, h4⟩ := tog_all l k 2 h hW
  have h5 : (256 : Nat) ^ 2 = 65536 := by decide
  rw [h5] at h3
  have e : (l[k].toNat : Int) * 2 ^ (8 * k) = ((l[k].toNat * 2 ^ (8 * k) : Nat) : Int) := by simp
  rw [e, h4]
  generalize l[k].toNat * 2 ^ (8 * k) = y at *
  generalize leN (l.take k) = x at *
  have hm : IntKind.u16.wrap (y : Int) = (y : Int) := by rw [IntKind.wrap_u16]; omega
  rw [hm, u16_or_nat x y (by omega) (by omega), or_join x y (8 * k) h1 h2]
theorem tog_u32 (l : List UInt8) (k : Nat) (h : k < l.length) (hW : l.length ≤ 4) : bits .or .u32 (leN (l.take k) : Int) ((l[k].toNat : Int) * 2 ^ (8 * k) % 4294967296) = (leN (l.take (k + 1)) : Int) := by
  obtain ⟨h1, h2, h3, h4⟩ := tog_all l k 4 h hW
  have h5 : (256 : Nat) ^ 4 = 4294967296 := by decide
  rw [h5] at h3
  have e : (l[k].toNat : Int) * 2 ^ (8 * k) = ((l[k].toNat * 2 ^ (8 * k) : Nat) : Int) := by simp
  rw [e, h4]
  generalize l[k].toNat * 2 ^ (8 * k) = y at *
  generalize leN (l.take k) = x at *
  have hm : (y : Int) % 4294967296 = (y : Int) := by omega
  rw [hm, u32_or_nat x y (by omega) (by omega), or_join x y (8 * k) h1 h2]
theorem tog_u64 (l : List UInt8) (k : Nat) (h : k < l.length) (hW : l.length ≤ 8) : bits .or .u64 (leN (l.take k) : Int) (IntKind.u64.wrap ((l[k].toNat : Int) * 2 ^ (8 * k))) = (leN (l.take (k + 1)) : Int) := by
  obtain ⟨h1, h2, h3, h4⟩ := tog_all l k 8 h hW
  have h5 : (256 : Nat) ^ 8 = 18446744073709551616 := by decide
  rw [h5] at h3
  have e : (l[k].toNat : Int) * 2 ^ (8 * k) = ((l[k].toNat * 2 ^ (8 * k) : Nat) : Int) := by simp
  rw [e, h4]
  generalize l[k].toNat * 2 ^ (8 * k) = y at *
  generalize leN (l.take k) = x at *
  have hm : IntKind.u64.wrap (y : Int) = (y : Int) := by rw [IntKind.wrap_u64]; omega
  rw [hm, u64_or_nat x y (by omega) (by omega), or_join x y (8 * k) h1 h2]
end Go.Proofs.YtclhgjjehnmncaaDoor
