/- Contracts of bit.Reader: Get, Ones, Done. -/
import Derived.Test.YtclhgjjehnmncaaDoorBitR
namespace Go.Proofs.YtclhgjjehnmncaaDoor
open Go.RowKit

theorem drop_get (bs : List UInt8) (at_ k : Nat) (b : Bool) (h : ((allBits bs).drop at_)[k]? = some b) : b = bitAt bs (at_ + k) ∧ at_ + k < 8 * bs.length := by
  rw [List.getElem?_drop] at h
  have hlt : at_ + k < 8 * bs.length := by
    have := (List.getElem?_eq_some_iff.1 h).1
    rwa [allBits_length] at this
  rw [allBits_get bs _ hlt] at h
  injection h with h
  exact ⟨h.symm, hlt⟩
theorem drop_len (bs : List UInt8) (at_ : Nat) : ((allBits bs).drop at_).length = 8 * bs.length - at_ := by rw [List.length_drop, allBits_length]

/-- the number so far, and one bit more -/
theorem get_bit (L : List Bool) (k : Nat) (b : Bool) (hb : L[k]? = some b) (hk : k < 64) :
    bits .or .u64 (valOf (L.take k) : Int) (IntKind.u64.wrap (IntKind.u64.wrap (b.toNat : Int) * 2 ^ k)) = (valOf (L.take (k + 1)) : Int) := by
  have hkl := (List.getElem?_eq_some_iff.1 hb).1
  have ht : L.take (k + 1) = L.take k ++ [b] := by rw [List.take_add_one, hb]; rfl
  have hl : (L.take k).length = k := by rw [List.length_take]; omega
  have hv := valOf_lt (L.take k)
  rw [hl] at hv
  have hp : (2 : Nat) ^ k ≤ 2 ^ 63 := Nat.pow_le_pow_right (by decide) (by omega)
  have hb1 : b.toNat ≤ 1 := by cases b <;> simp
  have hm : b.toNat * 2 ^ k ≤ 2 ^ k := by have := Nat.mul_le_mul_right (2 ^ k) hb1; rwa [Nat.one_mul] at this
  have e : (b.toNat : Int) * 2 ^ k = ((b.toNat * 2 ^ k : Nat) : Int) := by simp
  have ew : IntKind.u64.wrap (b.toNat : Int) = (b.toNat : Int) := by rw [IntKind.wrap_u64]; omega
  have hmod : ((b.toNat * 2 ^ k : Nat) : Int) % 2 ^ k = 0 := by rw [← e]; exact Int.mul_emod_left _ _
  have hv2 : ((valOf (L.take k) : Nat) : Int) < 2 ^ k := by
    have : ((valOf (L.take k) : Nat) : Int) < ((2 ^ k : Nat) : Int) := by exact_mod_cast hv
    simpa using this
  rw [ht, valOf_snoc, hl, ew, e, IntKind.wrap_u64]
  generalize b.toNat * 2 ^ k = q at *
  generalize valOf (L.take k) = v at *
  rw [Int.emod_eq_of_lt (by omega) (by omega), orHigh_u64 _ _ k (by omega) hv2 (by omega) hmod (by omega) (by omega)]
  omega

section
variable {w : World} {g : Nat} {L : List Bool}
set_option maxHeartbeats 1000000 in
theorem rGet_nil (n : Int) (w : World) : Calls Tryd.prog 36 #[.pointer none, .int .i64 n] w fun e' w' => e' = .returned (.int .u64 0) ∧ w = w' := by
  go_enter Tryd.func36, Tryd.ntmps36
  go_wp2_with (go_at_call 42; go_must (refine (rErr_nil _).mono ?_; rintro e w' ⟨rfl, rfl⟩))
  go_ret
  exact ⟨rfl, rfl⟩
set_option maxHeartbeats 1000000 in
theorem rDone_nil (w : World) : Calls Tryd.prog 38 #[.pointer none] w fun e' w' => e' = .returned (.int .i64 1) ∧ w = w' := by
  go_enter Tryd.func38, Tryd.ntmps38
  go_wp2_with (go_at_call 42; go_must (refine (rErr_nil _).mono ?_; rintro e w' ⟨rfl, rfl⟩))
  go_ret
  exact ⟨rfl, rfl⟩

set_option maxHeartbeats 1000000 in
theorem rGet_err (n : Int) (e : Nat) (h : RdrIs w g L e) (he : e ≠ 0) : Calls Tryd.prog 36 #[.pointer (some ⟨g, 0, none⟩), .int .i64 n] w fun e' w' => e' = .returned (.int .u64 0) ∧ w = w' := by
  obtain ⟨bs, at_, A, c, hb, hr, ha, hl, hlc, rfl⟩ := h
  have HB := Lib.hid hb
  have hne : (((e : Nat) : Int) != 0) = true := by rw [bne_iff_ne]; omega
  clear hb hr he
  go_enter Tryd.func36, Tryd.ntmps36
  go_wp2_with (go_at_call 42; go_must (refine (rErr_any _ _ _ HB.out).mono ?_; rintro e w' ⟨rfl, rfl⟩))
  go_ret
  exact ⟨rfl, rfl⟩
set_option maxHeartbeats 1000000 in
theorem rGet_arg (n : Int) (h : RdrIs w g L 0) (hn : n < 0 ∨ 64 < n) :
    Calls Tryd.prog 36 #[.pointer (some ⟨g, 0, none⟩), .int .i64 n] w fun e' w' => e' = .returned (.int .u64 0) ∧ RdrIs w' g L 2 ∧ OnlyT g [68] w w' := by
  obtain ⟨bs, at_, A, c, hb, hr, ha, hl, hlc, hL⟩ := h
  have HB := Lib.hid hb
  have HR := Lib.hid hr
  have HL := Lib.hid hL
  have HN := Lib.hid hn
  clear hb hr hL hn
  go_enter Tryd.func36, Tryd.ntmps36
  go_wp2_with (first
    | (go_at_call 42; go_must (refine (rErr_any _ _ _ HB.out).mono ?_; rintro e w' ⟨rfl, rfl⟩))
    | (go_at_call 43; go_must (refine (within_bad _ _ _ _ _ HB.out HN.out).mono ?_; rintro e w' ⟨rfl, rfl⟩)))
  go_ret
  have ho : OnlyT g [68] w (w.setCell ⟨g, 2, none⟩ (.int .i64 2)) := OnlyT.set_ HB.out (Nat.le_refl _) _ (by simp)
  exact ⟨rfl, ⟨bs, at_, A, c, HB.out.set_ 2 _, HR.out.only ho (by decide), ha, hl, hlc, HL.out⟩, ho⟩
set_option maxHeartbeats 1000000 in
theorem rGet_trunc (n : Nat) (h : RdrIs w g L 0) (hn : n ≤ 64) (hL1 : L.length < n) :
    Calls Tryd.prog 36 #[.pointer (some ⟨g, 0, none⟩), .int .i64 n] w fun e' w' => e' = .returned (.int .u64 0) ∧ RdrIs w' g L 11 ∧ OnlyT g [68] w w' := by
  obtain ⟨bs, at_, A, c, hb, hr, ha, hl, hlc, hL⟩ := h
  have hL2 : 8 * bs.length - at_ < n := by rw [hL, drop_len] at hL1; exact hL1
  have HB := Lib.hid hb
  have HR := Lib.hid hr
  have HL := Lib.hid hL
  have HL2 := Lib.hid hL2
  clear hb hr hL hL1 hL2
  go_enter Tryd.func36, Tryd.ntmps36
  go_wp2_with (first
    | (go_at_call 42; go_must (refine (rErr_any _ _ _ HB.out).mono ?_; rintro e w' ⟨rfl, rfl⟩))
    | (go_at_call 35; go_must (refine (rLeft_ok HB.out hl ha).mono ?_; rintro e w' ⟨rfl, rfl⟩))
    | (go_at_call 43; refine (within_ok _ _ _ _ _ (by omega) (by omega)).mono ?_; rintro e w' ⟨rfl, rfl⟩)
    | (go_at_call 43; go_must (refine (within_bad (w := w.drew) _ _ _ _ _ HB.out (by have := HL2.out; omega)).mono ?_; rintro e w' ⟨rfl, rfl⟩)))
  go_ret
  have ho : OnlyT g [68] w (w.setCell ⟨g, 2, none⟩ (.int .i64 11)) := OnlyT.set_ HB.out (Nat.le_refl _) _ (by simp)
  exact ⟨rfl, ⟨bs, at_, A, c, HB.out.set_ 2 _, HR.out.only ho.drew (by decide), ha, hl, hlc, HL.out⟩, ho.drew⟩

def GetRelR (L : List Bool) (n : Nat) (v i : Value) : Prop := ∃ k : Nat, k ≤ n ∧ i = .int .i64 k ∧ v = .int .u64 (valOf (L.take k))

set_option maxHeartbeats 1000000 in
set_option maxRecDepth 100000 in
theorem rGet_ok (n : Nat) (h : RdrIs w g L 0) (hn : n ≤ 64) (hL1 : n ≤ L.length) :
    Calls Tryd.prog 36 #[.pointer (some ⟨g, 0, none⟩), .int .i64 n] w fun e' w' => e' = .returned (.int .u64 (valOf (L.take n))) ∧ RdrIs w' g (L.drop n) 0 ∧ OnlyT g [68] w w' := by
  obtain ⟨bs, at_, A, c, hb, hr, ha, hl, hlc, hL⟩ := h
  have hL2 : n ≤ 8 * bs.length - at_ := by rw [hL, drop_len] at hL1; exact hL1
  have hc1 := hb.cell 1
  simp only [List.getElem?_cons_zero, List.getElem?_cons_succ] at hc1
  have hf1 := hb.frozen 1
  have HB := Lib.hid hb
  have HR := Lib.hid hr
  have HL := Lib.hid hL
  have HL2 := Lib.hid hL2
  have hai : (at_ : Int) ≤ 1125899907000000 := by omega
  have hni : (n : Int) ≤ 64 := by omega
  clear hb hr hL hL2
  go_enter Tryd.func36, Tryd.ntmps36
  go_wp2_with (first
    | (go_at_call 42; go_must (refine (rErr_any _ _ _ HB.out).mono ?_; rintro e w' ⟨rfl, rfl⟩))
    | (go_at_call 35; go_must (refine (rLeft_ok HB.out hl ha).mono ?_; rintro e w' ⟨rfl, rfl⟩))
    | (go_at_call 43; refine (within_ok _ _ _ _ _ (by omega) (by have := HL2.out; omega)).mono ?_; rintro e w' ⟨rfl, rfl⟩))
  go_loop [5, 25] (GetRelR L n) (fun _ i => n - (intOf i).toNat)
  case atStart => exact ⟨0, Nat.zero_le _, rfl, by simp [valOf]⟩
  case round =>
    obtain ⟨k, hk, rfl, rfl⟩ := hrel
    by_cases hlt : k < n
    · have hb0 : L[k]? = some (bitAt bs (at_ + k)) := by
        rw [HL.out, List.getElem?_drop, allBits_get bs _ (by have := HL2.out; omega)]
      have hstep := get_bit L k _ hb0 (by omega)
      have HS := Lib.hid hstep
      clear hb0 hstep
      go_wp2_with (go_at_call 45; go_must (refine (rNext_any k _ (w := w.drew) HB.out HR.out hl (by have := HL2.out; omega)).mono ?_; rintro e w' ⟨rfl, rfl⟩))
      go_round
      case rel => exact ⟨k + 1, by omega, by go_num, by rw [HS.out]⟩
      case measure => simp [intOf]; omega
    · obtain rfl : k = n := by omega
      go_wp2
      go_ret
      have ho : OnlyT g [68] w (w.setCell ⟨g, 1, none⟩ (.int .i64 ((at_ : Int) + (k : Int)))) := OnlyT.set_ HB.out (Nat.le_refl _) _ (by simp)
      refine ⟨rfl, ⟨bs, at_ + k, A, c, ?_, HR.out.only ho.drew (by decide), by have := HL2.out; omega, hl, hlc, by rw [HL.out, List.drop_drop]⟩, ho.drew⟩
      rw [show ((at_ + k : Nat) : Int) = (at_ : Int) + (k : Int) from rfl]
      exact HB.out.set_ 1 _

/- runs of ones -/
/-- How a run of up to m ones stands at the head of bits. -/
theorem ones_cases : ∀ (m : Nat) (L : List Bool), (∃ R, L = List.replicate m true ++ R) ∨ (∃ k, k < m ∧ ∃ R, L = List.replicate k true ++ false :: R) ∨ (∃ k, k < m ∧ L = List.replicate k true)
  | 0, L => .inl ⟨L, rfl⟩
  | m + 1, [] => .inr (.inr ⟨0, by omega, rfl⟩)
  | m + 1, false :: L => .inr (.inl ⟨0, by omega, L, rfl⟩)
  | m + 1, true :: L => by
    rcases ones_cases m L with ⟨R, h⟩ | ⟨k, hk, R, h⟩ | ⟨k, hk, h⟩
    · exact .inl ⟨R, by rw [h]; rfl⟩
    · exact .inr (.inl ⟨k + 1, by omega, R, by rw [h]; rfl⟩)
    · exact .inr (.inr ⟨k + 1, by omega, by rw [h]; rfl⟩)

def CountR (n : Nat) (i : Value) : Prop := ∃ k : Nat, k ≤ n ∧ i = .int .i64 k

end
end Go.Proofs.YtclhgjjehnmncaaDoor
