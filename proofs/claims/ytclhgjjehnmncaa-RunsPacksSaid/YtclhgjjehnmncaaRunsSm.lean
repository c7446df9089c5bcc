/- Contracts of layer 10's small functions: Most, first, begins. -/
import Derived.Test.YtclhgjjehnmncaaRunsCnt
namespace Go.Proofs.Ytclhgjjehnmncaa
open Go.RowKit

set_option maxHeartbeats 1000000 in
theorem runsMost_any (n : Int) (w : World) : Calls Try.prog 10 #[.int .i64 n] w fun e w' => e = .returned (.int .i64 (mostI n)) ∧ w = w' := by
  unfold mostI
  by_cases h1 : n < 1
  · rw [if_pos (.inl h1)]
    go_enter Try.func10, Try.ntmps10
    go_wp2
    go_ret
    exact ⟨rfl, rfl⟩
  · by_cases h2 : 1099511627776 < n
    · rw [if_pos (.inr h2)]
      go_enter Try.func10, Try.ntmps10
      go_wp2
      go_ret
      exact ⟨rfl, rfl⟩
    · rw [if_neg (by omega)]
      go_enter Try.func10, Try.ntmps10
      go_wp2
      go_ret
      exact ⟨ret_int (by omega), rfl⟩
set_option maxHeartbeats 1000000 in
theorem refMost_any (n : Int) (w : World) : Calls Try.prog 11 #[.int .i64 n] w fun e w' => e = .returned (.int .i64 (mostI n)) ∧ w = w' := by
  unfold mostI
  by_cases h1 : n < 1
  · rw [if_pos (.inl h1)]
    go_enter Try.func11, Try.ntmps11
    go_wp2
    go_ret
    exact ⟨rfl, rfl⟩
  · by_cases h2 : 1099511627776 < n
    · rw [if_pos (.inr h2)]
      go_enter Try.func11, Try.ntmps11
      go_wp2
      go_ret
      exact ⟨rfl, rfl⟩
    · rw [if_neg (by omega)]
      go_enter Try.func11, Try.ntmps11
      go_wp2
      go_ret
      exact ⟨ret_int (by omega), rfl⟩

theorem ret_two {a a' b b' : Int} (h1 : a = a') (h2 : b = b') : Ending.returned (.tuple #[.int .i64 a, .int .i64 b]) = .returned (.tuple #[.int .i64 a', .int .i64 b']) := by subst h1 h2; rfl
/-- How many bytes a piece that begins with c has, and how many it tells. -/
def sizeN (c : UInt8) : Nat := if c.toNat < 128 then c.toNat + 2 else 2
def manyN (c : UInt8) : Nat := if c.toNat < 128 then c.toNat + 1 else c.toNat - 125
set_option maxHeartbeats 1000000 in
theorem first_any (A : Option Addr) (n cap : Nat) (x : UInt8) (t : List UInt8) (w : World) (hr : Rd w w.heap.size A (bvs (x :: t))) (hn : t.length + 1 = n) :
    Calls Try.prog 17 #[.slice A n cap] w fun e w' => e = .returned (.tuple #[.int .i64 (sizeN x : Nat), .int .i64 (manyN x : Nat)]) ∧ w = w' := by
  subst hn
  obtain ⟨b, off, rfl, hb, hcell⟩ := hr.at_ (by simp [bvs])
  have hc0 := hcell 0 (.int .u8 (x.toNat : Int)) (by simp [bvs])
  rw [Nat.add_zero] at hc0
  have h8 := x.toNat_lt
  clear hcell hr
  by_cases h : x.toNat < 128
  · have hi : (x.toNat : Int) < 128 := by omega
    have e1 : sizeN x = x.toNat + 2 := by simp [sizeN, h]
    have e2 : manyN x = x.toNat + 1 := by simp [manyN, h]
    rw [e1, e2]
    clear e1 e2
    go_enter Try.func17, Try.ntmps17
    go_wp2
    go_ret2
    exact ⟨ret_two (by omega) (by omega), rfl⟩
  · have hi : ¬ (x.toNat : Int) < 128 := by omega
    have e1 : sizeN x = 2 := by simp [sizeN, h]
    have e2 : manyN x = x.toNat - 125 := by simp [manyN, h]
    rw [e1, e2]
    clear e1 e2
    go_enter Try.func17, Try.ntmps17
    go_wp2
    go_ret2
    exact ⟨ret_two rfl (by omega), rfl⟩

set_option maxHeartbeats 1000000 in
set_option maxRecDepth 100000 in
theorem begins_any (A : Option Addr) (n c : Nat) (l : List UInt8) (w : World) (hr : Rd w w.heap.size A (bvs l)) (hn : l.length = n) (k : Nat) (hk : k ≤ 1000000000000) (hn1 : n ≤ 1000000000000) :
    Calls Try.prog 16 #[.slice A n c, .int .i64 (k : Int)] w fun e w' => e = .returned (.bool (threeB (l.drop k))) ∧ Below w.heap.size w w' := by
  subst hn
  by_cases hlt : k + 2 < l.length
  · obtain ⟨b, off, rfl, hb, hcell⟩ := hr.at_ (by rw [bvs_length]; omega)
    obtain ⟨x, hx⟩ : ∃ x, l[k]? = some x := ⟨l[k], by simp⟩
    obtain ⟨y, hy⟩ : ∃ y, l[k + 1]? = some y := ⟨l[k + 1], by simp⟩
    obtain ⟨z, hz⟩ : ∃ z, l[k + 2]? = some z := ⟨l[k + 2], by simp⟩
    have hT : threeB (l.drop k) = (x == y && x == z) := three_of (by simpa using hx) (by simpa using hy) (by simpa using hz)
    rw [hT]
    have hc0 := hcell k (.int .u8 (x.toNat : Int)) (by simp [bvs, hx])
    have hc1 := hcell (k + 1) (.int .u8 (y.toNat : Int)) (by simp [bvs, hy])
    have hc2 := hcell (k + 2) (.int .u8 (z.toNat : Int)) (by simp [bvs, hz])
    have hd0 : decide ((k : Int) + 2 < (l.length : Int)) = true := by rw [decide_eq_true_eq]; omega
    have hk0 : (0 : Int) ≤ (k : Int) := by omega
    have hk1 : (k : Int) < (l.length : Int) := by omega
    have hk2 : (k : Int) + 1 < (l.length : Int) := by omega
    have hk3 : (k : Int) + 2 < (l.length : Int) := by omega
    clear hT hx hy hz hcell hr hlt
    by_cases hxy : x = y
    · subst hxy
      have hd1 : ((x.toNat : Int) == (x.toNat : Int)) = true := by rw [beq_iff_eq]
      by_cases hxz : x = z
      · subst hxz
        go_enter Try.func16, Try.ntmps16
        go_wp2_with fail
        go_quiet (fail)
        go_wp2
        go_ret
        exact ⟨by simp, below_drewN (Below.refl _ _) nq⟩
      · have hd2 : ((x.toNat : Int) == (z.toNat : Int)) = false := by rw [beq_eq_false_iff_ne]; exact fun e => hxz (UInt8.toNat_inj.1 (by omega))
        have hb2 : (x == z) = false := by rw [beq_eq_false_iff_ne]; exact hxz
        rw [hb2]
        go_enter Try.func16, Try.ntmps16
        go_wp2_with fail
        go_quiet (fail)
        go_wp2
        go_ret
        exact ⟨by simp, below_drewN (Below.refl _ _) nq⟩
    · have hd2 : ((x.toNat : Int) == (y.toNat : Int)) = false := by rw [beq_eq_false_iff_ne]; exact fun e => hxy (UInt8.toNat_inj.1 (by omega))
      have hb2 : (x == y) = false := by rw [beq_eq_false_iff_ne]; exact hxy
      rw [hb2]
      go_enter Try.func16, Try.ntmps16
      go_wp2_with fail
      go_quiet (fail)
      go_wp2
      go_ret
      exact ⟨by simp, below_drewN (Below.refl _ _) nq⟩
  · have hd0 : decide ((k : Int) + 2 < (l.length : Int)) = false := by rw [decide_eq_false_iff_not]; omega
    rw [three_short (by rw [List.length_drop]; omega)]
    clear hr hlt
    go_enter Try.func16, Try.ntmps16
    go_wp2_with fail
    go_quiet (fail)
    go_wp2
    go_ret
    exact ⟨rfl, below_drewN (Below.refl _ _) nq⟩
end Go.Proofs.Ytclhgjjehnmncaa
