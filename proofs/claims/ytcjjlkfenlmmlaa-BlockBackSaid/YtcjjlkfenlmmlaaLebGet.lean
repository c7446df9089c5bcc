/- Contracts of the functions that take a number: leb.Get, ref.Get, leb.GetInt. -/
import Derived.Test.YtcjjlkfenlmmlaaNum
import Derived.Deep.DeepMust
import Derived.BigQuiet
import Derived.Deep.QuietTactic
namespace Go.Proofs.Ytcjjlkfenlmmlaa
open Go.RowKit

theorem pow_7k (k : Nat) : (128 : Nat) ^ k = 2 ^ (7 * k) := by rw [Nat.pow_mul]
/-- bits that are put above those that are there, as the walk spells it -/
theorem get_step (acc c k : Nat) (hk : k ≤ 9) (ha : acc < 128 ^ k) (hb : c * 128 ^ k < 18446744073709551616) :
    bits .or .u64 (acc : Int) (IntKind.u64.wrap ((c : Int) * 2 ^ (7 * k))) = ((acc + c * 128 ^ k : Nat) : Int) := by
  have hp := pow128_mono hk
  have e : (c : Int) * 2 ^ (7 * k) = ((c * 128 ^ k : Nat) : Int) := by rw [pow_7k]; simp
  have ha2 : (acc : Int) < 2 ^ (7 * k) := by
    have : ((acc : Nat) : Int) < ((2 ^ (7 * k) : Nat) : Int) := by rw [← pow_7k]; exact_mod_cast ha
    simpa using this
  have hmod : ((c * 128 ^ k : Nat) : Int) % 2 ^ (7 * k) = 0 := by
    rw [← e]; exact Int.mul_emod_left _ _
  rw [e, IntKind.wrap_u64, Int.emod_eq_of_lt (by omega) (by omega), orHigh_u64 _ _ (7 * k) (by omega) ha2 (by omega) hmod (by omega) (by omega)]
  omega

theorem ret_get {a a' b b' c c' : Int} (h1 : a = a') (h2 : b = b') (h3 : c = c') :
    Ending.returned (.tuple #[.int .u64 a, .int .i64 b, .int .i64 c]) = .returned (.tuple #[.int .u64 a', .int .i64 b', .int .i64 c']) := by subst h1 h2 h3; rfl

/-- What holds at the head of a round of leb.Get. -/
def GetRel (l : List UInt8) (r : Nat × Nat × Nat) (t s i : Value) : Prop :=
  ∃ k acc : Nat, t = .int .u64 acc ∧ s = .int .i64 0 ∧ i = .int .i64 k ∧ k ≤ l.length ∧ k ≤ 9 ∧ acc < 128 ^ k ∧ Hid (lgetF k acc (l.drop k) = r)

set_option maxHeartbeats 400000 in
set_option maxRecDepth 100000 in
theorem lebGet_any (A : Option Addr) (n c : Nat) (l : List UInt8) (w : World) (hr : Rd w w.heap.size A (bvs l)) (hn : l.length = n) (hn1 : n ≤ 9223372036854775807) (m j e : Nat) (hg : lget l = (m, j, e)) :
    Calls Try.prog 36 #[.slice A n c] w fun e' w' => e' = .returned (.tuple #[.int .u64 m, .int .i64 j, .int .i64 e]) ∧ w = w' := by
  subst hn
  have HG := Lib.hid hg
  clear hg
  go_enter Try.func36, Try.ntmps36
  go_wp2
  go_step3
  go_wp2
  go_step3
  go_wp2
  go_loop [5, 6, 11] (GetRel l (m, j, e)) (fun _ _ i => 10 - (intOf i).toNat)
  case atStart => exact ⟨0, 0, rfl, rfl, rfl, by omega, by omega, by decide, HG.out⟩
  case round =>
    obtain ⟨k, acc, rfl, rfl, rfl, hkl, hk9, hacc, Hrel⟩ := hrel
    by_cases hlt : k < l.length
    · obtain ⟨ab, ao, rfl, _, hcell⟩ := hr k _ (bvs_get l k hlt)
      obtain ⟨b, hb⟩ : ∃ b, b = l[k] := ⟨_, rfl⟩
      rw [← hb] at hcell
      have hdrop : l.drop k = b :: l.drop (k + 1) := by rw [hb]; exact List.drop_eq_getElem_cons hlt
      rw [hdrop] at Hrel
      have HD := Lib.hid hdrop
      have HB := Lib.hid hb
      have hb8 := b.toNat_lt
      have hb0 : (0 : Int) ≤ (b.toNat : Int) := by omega
      have hb255 : (b.toNat : Int) ≤ 255 := by omega
      clear hdrop hb
      by_cases c1 : k = 9 ∧ 1 < b.toNat
      · have hres : (m, j, e) = (0, 0, 21) := by rw [← Hrel.out]; simp only [lgetF]; rw [if_pos c1]
        obtain ⟨rfl, c1⟩ := c1
        have HRES := Lib.hid hres
        clear hres
        go_wp2
        go_ret3
        have := HRES.out
        simp only [Prod.mk.injEq] at this
        obtain ⟨rfl, rfl, rfl⟩ := this
        exact ⟨rfl, rfl⟩
      · by_cases c2 : 128 ≤ b.toNat
        · have hk8 : k ≤ 8 := by omega
          have Hrel1 : Hid (lgetF (k + 1) (acc + (b.toNat - 128) * 128 ^ k) (l.drop (k + 1)) = (m, j, e)) := by
            have := Hrel.out
            simp only [lgetF] at this
            rw [if_neg c1, if_pos c2] at this
            exact this
          have hn9 : ((k : Int) == 9) = false := by rw [beq_eq_false_iff_ne]; omega
          have hp : 128 ^ k * 128 = 128 ^ (k + 1) := rfl
          have hpp := pow128_pos k
          have hm9 := pow128_mono (k := k + 1) (by omega)
          have hbk : (b.toNat - 128) * 128 ^ k ≤ 127 * 128 ^ k := Nat.mul_le_mul_right _ (by omega)
          have hstep := get_step acc (b.toNat - 128) k (by omega) hacc (by omega)
          have hcast : ((b.toNat - 128 : Nat) : Int) = (b.toNat : Int) - 128 := by omega
          rw [hcast] at hstep
          have hacc1 : acc + (b.toNat - 128) * 128 ^ k < 128 ^ (k + 1) := by omega
          have HS := Lib.hid hstep
          have HA := Lib.hid hacc1
          have hk8i : (k : Int) ≤ 8 := by omega
          clear hstep hacc1 hbk hm9 hp hcast hacc hpp Hrel c1
          go_wp2
          go_round
          case rel => exact ⟨k + 1, _, by rw [HS.out], rfl, by go_num, by omega, by omega, HA.out, Hrel1⟩
          case measure => simp [intOf]; omega
        · by_cases c3 : b.toNat = 0 ∧ 0 < k
          · have hres : (m, j, e) = (0, 0, 21) := by rw [← Hrel.out]; simp only [lgetF]; rw [if_neg c1, if_neg c2, if_pos c3]
            obtain ⟨c3, hk0⟩ := c3
            have hb00 : ((b.toNat : Int) == 0) = true := by rw [c3]; rfl
            have hn9 : (decide (1 < (b.toNat : Int))) = false := by rw [c3]; rfl
            have HRES := Lib.hid hres
            have hcell' : w.cell? ⟨ab, ao + k, none⟩ = some (.int .u8 0) := by rw [hcell, c3]; rfl
            clear hres c3 hcell Hrel c1 c2 hb00 hn9 hacc
            go_wp2
            all_goals go_ret3
            all_goals (have hq := HRES.out; simp only [Prod.mk.injEq] at hq; obtain ⟨rfl, rfl, rfl⟩ := hq; exact ⟨rfl, rfl⟩)
          · have hres : (m, j, e) = (acc + b.toNat * 128 ^ k, k + 1, 0) := by rw [← Hrel.out]; simp only [lgetF]; rw [if_neg c1, if_neg c2, if_neg c3]
            have hbk : b.toNat * 128 ^ k < 18446744073709551616 := by
              rcases Nat.lt_or_ge k 9 with g | g
              · have h6 : 128 ^ (k + 1) ≤ 9223372036854775808 := pow128_mono (by omega)
                have h7 : b.toNat * 128 ^ k ≤ 127 * 128 ^ k := Nat.mul_le_mul_right _ (by omega)
                have h8 : 128 ^ k * 128 = 128 ^ (k + 1) := rfl
                omega
              · have : k = 9 := by omega
                subst this
                have : b.toNat ≤ 1 := by omega
                have := Nat.mul_le_mul_right (128 ^ 9) this
                rw [pow128_9] at this ⊢
                omega
            have hstep := get_step acc b.toNat k (by omega) hacc hbk
            have HS := Lib.hid hstep
            have HRES := Lib.hid hres
            have hk9i : (k : Int) ≤ 9 := by omega
            have hlt128 : (b.toNat : Int) < 128 := by omega
            by_cases g9 : k = 9
            · subst g9
              have hb1 : (b.toNat : Int) ≤ 1 := by omega
              have hz : (decide (1 < (b.toNat : Int))) = false := by rw [decide_eq_false_iff_not]; omega
              by_cases gz : b.toNat = 0
              · exact absurd ⟨gz, by omega⟩ c3
              · have hz2 : ((b.toNat : Int) == 0) = false := by rw [beq_eq_false_iff_ne]; omega
                have HS9 : Hid (bits .or .u64 (acc : Int) ((b.toNat : Int) * 9223372036854775808) = ((acc + b.toNat * 128 ^ 9 : Nat) : Int)) := by
                  have e : (2 : Int) ^ (7 * 9) = 9223372036854775808 := by decide
                  have h := hstep
                  rw [e, IntKind.wrap_u64, Int.emod_eq_of_lt (by omega) (by omega)] at h
                  exact h
                clear hstep hres hbk hacc Hrel c1 c2 c3 gz
                go_wp2
                all_goals go_ret3
                all_goals (have hq := HRES.out; simp only [Prod.mk.injEq] at hq; obtain ⟨rfl, rfl, rfl⟩ := hq; exact ⟨ret_get HS9.out (by omega) rfl, rfl⟩)
            · have hn9 : ((k : Int) == 9) = false := by rw [beq_eq_false_iff_ne]; omega
              by_cases gz : b.toNat = 0
              · have hk00 : k = 0 := by omega
                subst hk00
                have hcell' : w.cell? ⟨ab, ao, none⟩ = some (.int .u8 0) := by have := hcell; rw [gz] at this; simpa using this
                obtain rfl : acc = 0 := by simpa using hacc
                have GZ := Lib.hid gz
                clear hstep hres hbk hacc Hrel c1 c2 c3 gz g9 hn9 hcell hlt128 hk9i
                go_wp2
                all_goals go_ret3
                all_goals (have hq := HRES.out; simp only [Prod.mk.injEq] at hq; obtain ⟨rfl, rfl, rfl⟩ := hq; exact ⟨ret_get (by rw [GZ.out]; decide) (by omega) rfl, rfl⟩)
              · have hz2 : ((b.toNat : Int) == 0) = false := by rw [beq_eq_false_iff_ne]; omega
                clear hstep hres hbk hacc Hrel c1 c2 c3 gz g9
                go_wp2
                all_goals go_ret3
                all_goals (have hq := HRES.out; simp only [Prod.mk.injEq] at hq; obtain ⟨rfl, rfl, rfl⟩ := hq; exact ⟨ret_get HS.out (by omega) rfl, rfl⟩)
    · have hkl' : k = l.length := by omega
      have hres : (m, j, e) = (0, 0, 11) := by rw [← Hrel.out, List.drop_of_length_le (by omega)]; rfl
      have HRES := Lib.hid hres
      clear hres Hrel hacc
      subst hkl'
      go_wp2
      all_goals go_ret3
      all_goals (have hq := HRES.out; simp only [Prod.mk.injEq] at hq; obtain ⟨rfl, rfl, rfl⟩ := hq; exact ⟨rfl, rfl⟩)

theorem ref_step (acc b P : Nat) (h : acc + b % 128 * P < 18446744073709551616) :
    IntKind.u64.wrap ((acc : Int) + IntKind.u64.wrap ((P : Int) * ((b : Int) % 128))) = ((acc + b % 128 * P : Nat) : Int) := by
  have e : (P : Int) * ((b : Int) % 128) = ((b % 128 * P : Nat) : Int) := by rw [Int.natCast_mul, Int.mul_comm]; rfl
  rw [e, IntKind.wrap_u64, IntKind.wrap_u64]
  omega

/-- What holds at the head of a round of ref.Get. -/
def RefGetRel (l : List UInt8) (r : Nat × Nat × Nat) (t q i : Value) : Prop :=
  ∃ k acc P : Nat, t = .int .u64 acc ∧ q = .int .u64 P ∧ i = .int .i64 k ∧ k ≤ l.length ∧ k ≤ 9 ∧ acc < P ∧ Hid (P = 128 ^ k) ∧ Hid (lgetF k acc (l.drop k) = r)

set_option maxHeartbeats 400000 in
set_option maxRecDepth 100000 in
theorem refGet_any (A : Option Addr) (n c : Nat) (l : List UInt8) (w : World) (hr : Rd w w.heap.size A (bvs l)) (hn : l.length = n) (hn1 : n ≤ 9223372036854775807) (m j e : Nat) (hg : lget l = (m, j, e)) :
    Calls Try.prog 38 #[.slice A n c] w fun e' w' => e' = .returned (.tuple #[.int .u64 m, .int .i64 j, .int .i64 e]) ∧ w = w' := by
  subst hn
  have HG := Lib.hid hg
  clear hg
  go_enter Try.func38, Try.ntmps38
  go_wp2
  go_loop [5, 6, 7] (RefGetRel l (m, j, e)) (fun _ _ i => 10 - (intOf i).toNat)
  case atStart => exact ⟨0, 0, 1, rfl, rfl, rfl, by omega, by omega, by decide, rfl, HG.out⟩
  case round =>
    obtain ⟨k, acc, P, rfl, rfl, rfl, hkl, hk9, hacc, HP, Hrel⟩ := hrel
    by_cases hlt : k < l.length
    · obtain ⟨ab, ao, rfl, _, hcell⟩ := hr k _ (bvs_get l k hlt)
      obtain ⟨b, hb⟩ : ∃ b, b = l[k] := ⟨_, rfl⟩
      rw [← hb] at hcell
      have hdrop : l.drop k = b :: l.drop (k + 1) := by rw [hb]; exact List.drop_eq_getElem_cons hlt
      rw [hdrop] at Hrel
      have HD := Lib.hid hdrop
      have HB := Lib.hid hb
      have hb8 := b.toNat_lt
      have hb0 : (0 : Int) ≤ (b.toNat : Int) := by omega
      have hb255 : (b.toNat : Int) ≤ 255 := by omega
      clear hdrop hb
      by_cases c1 : k = 9 ∧ 1 < b.toNat
      · have hres : (m, j, e) = (0, 0, 21) := by rw [← Hrel.out]; simp only [lgetF]; rw [if_pos c1]
        obtain ⟨rfl, c1⟩ := c1
        have HRES := Lib.hid hres
        clear hres
        go_wp2
        go_ret3
        have hq := HRES.out
        simp only [Prod.mk.injEq] at hq
        obtain ⟨rfl, rfl, rfl⟩ := hq
        exact ⟨rfl, rfl⟩
      · by_cases c2 : 128 ≤ b.toNat
        · have hk8 : k ≤ 8 := by omega
          have hn9 : ((k : Int) == 9) = false := by rw [beq_eq_false_iff_ne]; omega
          clear c1
          go_wp2
          have hP9 := pow128_mono (k := k + 1) (by omega)
          have hps : 128 ^ (k + 1) = 128 * P := by rw [HP.out, Nat.pow_succ, Nat.mul_comm]
          have hPp := pow128_pos k
          rw [← HP.out] at hPp
          have hbk : b.toNat % 128 * P ≤ 127 * P := Nat.mul_le_mul_right _ (by omega)
          have hstep := ref_step acc b.toNat P (by omega)
          have hp1 : IntKind.u64.wrap (128 * (P : Int)) = ((128 * P : Nat) : Int) := by rw [IntKind.wrap_u64]; omega
          have hacc1 : acc + b.toNat % 128 * P < 128 * P := by omega
          have Hrel1 : Hid (lgetF (k + 1) (acc + b.toNat % 128 * P) (l.drop (k + 1)) = (m, j, e)) := by
            have h := Hrel.out
            simp only [lgetF] at h
            rw [if_neg (by omega), if_pos c2, ← HP.out, show b.toNat - 128 = b.toNat % 128 by omega] at h
            exact h
          go_round
          case rel => exact ⟨k + 1, _, 128 * P, by rw [hstep], by rw [hp1], by go_num, by omega, by omega, hacc1, hps.symm, Hrel1⟩
          case measure => simp [intOf]; omega
        · have hlt128 : (b.toNat : Int) < 128 := by omega
          by_cases c3 : b.toNat = 0 ∧ 0 < k
          · have hres : (m, j, e) = (0, 0, 21) := by rw [← Hrel.out]; simp only [lgetF]; rw [if_neg c1, if_neg c2, if_pos c3]
            have HRES := Lib.hid hres
            have hcell' : w.cell? ⟨ab, ao + k, none⟩ = some (.int .u8 0) := by rw [hcell, c3.1]; rfl
            have hk0 := c3.2
            clear hres c3 hcell Hrel c1 c2 hacc hb0 hb255 hlt128
            by_cases g9 : k = 9
            · have hk9t : ((k : Int) == 9) = true := by rw [g9]; rfl
              clear g9
              go_wp2
              all_goals go_ret3
              all_goals (have hq := HRES.out; simp only [Prod.mk.injEq] at hq; obtain ⟨rfl, rfl, rfl⟩ := hq; exact ⟨rfl, rfl⟩)
            · have hk9f : ((k : Int) == 9) = false := by rw [beq_eq_false_iff_ne]; omega
              clear g9
              go_wp2
              all_goals go_ret3
              all_goals (have hq := HRES.out; simp only [Prod.mk.injEq] at hq; obtain ⟨rfl, rfl, rfl⟩ := hq; exact ⟨rfl, rfl⟩)
          · have hres : (m, j, e) = (acc + b.toNat * 128 ^ k, k + 1, 0) := by rw [← Hrel.out]; simp only [lgetF]; rw [if_neg c1, if_neg c2, if_neg c3]
            have hbk : b.toNat * P ≤ 9223372036854775808 := by
              rw [HP.out]
              rcases Nat.lt_or_ge k 9 with g | g
              · have h6 : 128 ^ (k + 1) ≤ 9223372036854775808 := pow128_mono (by omega)
                have h7 : b.toNat * 128 ^ k ≤ 127 * 128 ^ k := Nat.mul_le_mul_right _ (by omega)
                have h8 : 128 ^ k * 128 = 128 ^ (k + 1) := rfl
                omega
              · have : k = 9 := by omega
                subst this
                have : b.toNat ≤ 1 := by omega
                have := Nat.mul_le_mul_right (128 ^ 9) this
                rw [pow128_9] at this ⊢
                omega
            have hPm := pow128_mono hk9
            rw [← HP.out] at hPm
            have hstep := ref_step acc b.toNat P (by rw [Nat.mod_eq_of_lt (by omega)]; omega)
            rw [Nat.mod_eq_of_lt (a := b.toNat) (by omega)] at hstep
            rw [← HP.out] at hres
            have HS := Lib.hid hstep
            have HRES := Lib.hid hres
            have hk9i : (k : Int) ≤ 9 := by omega
            by_cases gz : b.toNat = 0
            · have hk00 : k = 0 := by omega
              subst hk00
              have hcell' : w.cell? ⟨ab, ao, none⟩ = some (.int .u8 0) := by have := hcell; rw [gz] at this; simpa using this
              obtain rfl : P = 1 := by simpa using HP.out
              obtain rfl : acc = 0 := by omega
              have GZ := Lib.hid gz
              clear hstep hres hbk hacc Hrel c1 c2 c3 gz hcell hlt128 hk9i hPm
              go_wp2
              all_goals go_ret3
              all_goals (have hq := HRES.out; simp only [Prod.mk.injEq] at hq; obtain ⟨rfl, rfl, rfl⟩ := hq; exact ⟨ret_get (by rw [GZ.out]; decide) (by omega) rfl, rfl⟩)
            · have hz2 : ((b.toNat : Int) == 0) = false := by rw [beq_eq_false_iff_ne]; omega
              have hb1 : k = 9 → (b.toNat : Int) ≤ 1 := by intro g; omega
              by_cases g9 : k = 9
              · have hb1' := hb1 g9
                have hk9t : ((k : Int) == 9) = true := by rw [g9]; rfl
                clear hstep hres hbk hacc Hrel c1 c2 c3 gz hb1 g9 hPm
                go_wp2
                all_goals go_ret3
                all_goals (have hq := HRES.out; simp only [Prod.mk.injEq] at hq; obtain ⟨rfl, rfl, rfl⟩ := hq; exact ⟨ret_get HS.out (by omega) rfl, rfl⟩)
              · have hk9f : ((k : Int) == 9) = false := by rw [beq_eq_false_iff_ne]; omega
                clear hstep hres hbk hacc Hrel c1 c2 c3 gz hb1 g9 hPm
                go_wp2
                all_goals go_ret3
                all_goals (have hq := HRES.out; simp only [Prod.mk.injEq] at hq; obtain ⟨rfl, rfl, rfl⟩ := hq; exact ⟨ret_get HS.out (by omega) rfl, rfl⟩)
    · have hkl' : k = l.length := by omega
      have hres : (m, j, e) = (0, 0, 11) := by rw [← Hrel.out, List.drop_of_length_le (by omega)]; rfl
      have HRES := Lib.hid hres
      clear hres Hrel hacc
      subst hkl'
      go_wp2
      all_goals go_ret3
      all_goals (have hq := HRES.out; simp only [Prod.mk.injEq] at hq; obtain ⟨rfl, rfl, rfl⟩ := hq; exact ⟨rfl, rfl⟩)

end Go.Proofs.Ytcjjlkfenlmmlaa
