/-
  Contracts of the functions that take a number: leb.Get, ref.Get, leb.GetInt. · Layer 30: the reference: May, number, sum, Put, PutEnd.
-/
import Derived.Test.YtlbpolkmhhmkgaaQ08
import Derived.Deep.DeepMust
import Derived.BigQuiet
import Derived.Deep.QuietTactic
namespace Go.Proofs.Ytlbpolkmhhmkgaa
open Go.RowKit

theorem pow_7k (k : Nat) : (128 : Nat) ^ k = 2 ^ (7 * k) := by rw [Nat.pow_mul]
/-- bits that are put above those that are there, as the walk spells it -/
theorem get_step (acc c k : Nat) (hk : k ≤ 9) (ha : acc < 128 ^ k) (hb : c * 128 ^ k < 18446744073709551616) :
    bits .or .u64 (acc : Int) (IntKind.u64.wrap ((c : Int) * 2 ^ (7 * k))) = ((acc + c * 128 ^ k : Nat) : Int) := by
  have hp := pow128_mono hk
  have e : (c : Int) * 2 ^ (7 * k) = ((c * 128 ^ k : Nat) : Int) := by rw [pow_7k]; simp
  have ha2 : (acc : Int) < 2 ^ (7 * k) := by
    have : ((acc : Nat) : Int) < ((2 ^ (7 * k) : Nat) : Int) := by rw [← pow_7k]; exact_mod_cast ha
    simpa using this
  have hmod : ((c * 128 ^ k : Nat) : Int) % 2 ^ (7 * k) = 0 := by
    rw [← e]; exact Int.mul_emod_left _ _
  rw [e, IntKind.wrap_u64, Int.emod_eq_of_lt (by omega) (by omega), orHigh_u64 _ _ (7 * k) (by omega) ha2 (by omega) hmod (by omega) (by omega)]
  omega

theorem ret_get {a a' b b' c c' : Int} (h1 : a = a') (h2 : b = b') (h3 : c = c') :
    Ending.returned (.tuple #[.int .u64 a, .int .i64 b, .int .i64 c]) = .returned (.tuple #[.int .u64 a', .int .i64 b', .int .i64 c']) := by subst h1 h2 h3; rfl

/-- What holds at the head of a round of leb.Get. -/
def GetRel (l : List UInt8) (r : Nat × Nat × Nat) (t s i : Value) : Prop :=
  ∃ k acc : Nat, t = .int .u64 acc ∧ s = .int .i64 0 ∧ i = .int .i64 k ∧ k ≤ l.length ∧ k ≤ 9 ∧ acc < 128 ^ k ∧ Hid (lgetF k acc (l.drop k) = r)

set_option maxHeartbeats 400000 in
set_option maxRecDepth 100000 in
theorem lebGet_any (A : Option Addr) (n c : Nat) (l : List UInt8) (w : World) (hr : Rd w w.heap.size A (bvs l)) (hn : l.length = n) (hn1 : n ≤ 9223372036854775807) (m j e : Nat) (hg : lget l = (m, j, e)) :
    Calls Try.prog 30 #[.slice A n c] w fun e' w' => e' = .returned (.tuple #[.int .u64 m, .int .i64 j, .int .i64 e]) ∧ w = w' := by
  subst hn
  have HG := Lib.hid hg
  clear hg
  go_enter Try.func30, Try.ntmps30
  go_wp2
  go_step3
  go_wp2
  go_step3
  go_wp2
  go_loop [5, 6, 11] (GetRel l (m, j, e)) (fun _ _ i => 10 - (intOf i).toNat)
  case atStart => exact ⟨0, 0, rfl, rfl, rfl, by omega, by omega, by decide, HG.out⟩
  case round =>
    obtain ⟨k, acc, rfl, rfl, rfl, hkl, hk9, hacc, Hrel⟩ := hrel
    by_cases hlt : k < l.length
    · obtain ⟨ab, ao, rfl, _, hcell⟩ := hr k _ (bvs_get l k hlt)
      obtain ⟨b, hb⟩ : ∃ b, b = l[k] := ⟨_, rfl⟩
      rw [← hb] at hcell
      have hdrop : l.drop k = b :: l.drop (k + 1) := by rw [hb]; exact List.drop_eq_getElem_cons hlt
      rw [hdrop] at Hrel
      have HD := Lib.hid hdrop
      have HB := Lib.hid hb
      have hb8 := b.toNat_lt
      have hb0 : (0 : Int) ≤ (b.toNat : Int) := by omega
      have hb255 : (b.toNat : Int) ≤ 255 := by omega
      clear hdrop hb
      by_cases c1 : k = 9 ∧ 1 < b.toNat
      · have hres : (m, j, e) = (0, 0, 21) := by rw [← Hrel.out]; simp only [lgetF]; rw [if_pos c1]
        obtain ⟨rfl, c1⟩ := c1
        have HRES := Lib.hid hres
        clear hres
        go_wp2
        go_ret3
        have := HRES.out
        simp only [Prod.mk.injEq] at this
        obtain ⟨rfl, rfl, rfl⟩ := this
        exact ⟨rfl, rfl⟩
      · by_cases c2 : 128 ≤ b.toNat
        · have hk8 : k ≤ 8 := by omega
          have Hrel1 : Hid (lgetF (k + 1) (acc + (b.toNat - 128) * 128 ^ k) (l.drop (k + 1)) = (m, j, e)) := by
            have := Hrel.out
            simp only [lgetF] at this
            rw [if_neg c1, if_pos c2] at this
            exact this
          have hn9 : ((k : Int) == 9) = false := by rw [beq_eq_false_iff_ne]; omega
          have hp : 128 ^ k * 128 = 128 ^ (k + 1) := rfl
          have hpp := pow128_pos k
          have hm9 := pow128_mono (k := k + 1) (by omega)
          have hbk : (b.toNat - 128) * 128 ^ k ≤ 127 * 128 ^ k := Nat.mul_le_mul_right _ (by omega)
          have hstep := get_step acc (b.toNat - 128) k (by omega) hacc (by omega)
          have hcast : ((b.toNat - 128 : Nat) : Int) = (b.toNat : Int) - 128 := by omega
          rw [hcast] at hstep
          have hacc1 : acc + (b.toNat - 128) * 128 ^ k < 128 ^ (k + 1) := by omega
          have HS := Lib.hid hstep
          have HA := Lib.hid hacc1
          have hk8i : (k : Int) ≤ 8 := by omega
          clear hstep hacc1 hbk hm9 hp hcast hacc hpp Hrel c1
          go_wp2
          go_round
          case rel => exact ⟨k + 1, _, by rw [HS.out], rfl, by go_num, by omega, by omega, HA.out, Hrel1⟩
          case measure => simp [intOf]; omega
        · by_cases c3 : b.toNat = 0 ∧ 0 < k
          · have hres : (m, j, e) = (0, 0, 21) := by rw [← Hrel.out]; simp only [lgetF]; rw [if_neg c1, if_neg c2, if_pos c3]
            obtain ⟨c3, hk0⟩ := c3
            have hb00 : ((b.toNat : Int) == 0) = true := by rw [c3]; rfl
            have hn9 : (decide (1 < (b.toNat : Int))) = false := by rw [c3]; rfl
            have HRES := Lib.hid hres
            have hcell' : w.cell? ⟨ab, ao + k, none⟩ = some (.int .u8 0) := by rw [hcell, c3]; rfl
            clear hres c3 hcell Hrel c1 c2 hb00 hn9 hacc
            go_wp2
            all_goals go_ret3
            all_goals (have hq := HRES.out; simp only [Prod.mk.injEq] at hq; obtain ⟨rfl, rfl, rfl⟩ := hq; exact ⟨rfl, rfl⟩)
          · have hres : (m, j, e) = (acc + b.toNat * 128 ^ k, k + 1, 0) := by rw [← Hrel.out]; simp only [lgetF]; rw [if_neg c1, if_neg c2, if_neg c3]
            have hbk : b.toNat * 128 ^ k < 18446744073709551616 := by
              rcases Nat.lt_or_ge k 9 with g | g
              · have h6 : 128 ^ (k + 1) ≤ 9223372036854775808 := pow128_mono (by omega)
                have h7 : b.toNat * 128 ^ k ≤ 127 * 128 ^ k := Nat.mul_le_mul_right _ (by omega)
                have h8 : 128 ^ k * 128 = 128 ^ (k + 1) := rfl
                omega
              · have : k = 9 := by omega
                subst this
                have : b.toNat ≤ 1 := by omega
                have := Nat.mul_le_mul_right (128 ^ 9) this
                rw [pow128_9] at this ⊢
                omega
            have hstep := get_step acc b.toNat k (by omega) hacc hbk
            have HS := Lib.hid hstep
            have HRES := Lib.hid hres
            have hk9i : (k : Int) ≤ 9 := by omega
            have hlt128 : (b.toNat : Int) < 128 := by omega
            by_cases g9 : k = 9
            · subst g9
              have hb1 : (b.toNat : Int) ≤ 1 := by omega
              have hz : (decide (1 < (b.toNat : Int))) = false := by rw [decide_eq_false_iff_not]; omega
              by_cases gz : b.toNat = 0
              · exact absurd ⟨gz, by omega⟩ c3
              · have hz2 : ((b.toNat : Int) == 0) = false := by rw [beq_eq_false_iff_ne]; omega
                have HS9 : Hid (bits .or .u64 (acc : Int) ((b.toNat : Int) * 9223372036854775808) = ((acc + b.toNat * 128 ^ 9 : Nat) : Int)) := by
                  have e : (2 : Int) ^ (7 * 9) = 9223372036854775808 := by decide
                  have h := hstep
                  rw [e, IntKind.wrap_u64, Int.emod_eq_of_lt (by omega) (by omega)] at h
                  exact h
                clear hstep hres hbk hacc Hrel c1 c2 c3 gz
                go_wp2
                all_goals go_ret3
                all_goals (have hq := HRES.out; simp only [Prod.mk.injEq] at hq; obtain ⟨rfl, rfl, rfl⟩ := hq; exact ⟨ret_get HS9.out (by omega) rfl, rfl⟩)
            · have hn9 : ((k : Int) == 9) = false := by rw [beq_eq_false_iff_ne]; omega
              by_cases gz : b.toNat = 0
              · have hk00 : k = 0 := by omega
                subst hk00
                have hcell' : w.cell? ⟨ab, ao, none⟩ = some (.int .u8 0) := by have := hcell; rw [gz] at this; simpa using this
                obtain rfl : acc = 0 := by simpa using hacc
                have GZ := Lib.hid gz
                clear hstep hres hbk hacc Hrel c1 c2 c3 gz g9 hn9 hcell hlt128 hk9i
                go_wp2
                all_goals go_ret3
                all_goals (have hq := HRES.out; simp only [Prod.mk.injEq] at hq; obtain ⟨rfl, rfl, rfl⟩ := hq; exact ⟨ret_get (by rw [GZ.out]; decide) (by omega) rfl, rfl⟩)
              · have hz2 : ((b.toNat : Int) == 0) = false := by rw [beq_eq_false_iff_ne]; omega
                clear hstep hres hbk hacc Hrel c1 c2 c3 gz g9
                go_wp2
                all_goals go_ret3
                all_goals (have hq := HRES.out; simp only [Prod.mk.injEq] at hq; obtain ⟨rfl, rfl, rfl⟩ := hq; exact ⟨ret_get HS.out (by omega) rfl, rfl⟩)
    · have hkl' : k = l.length := by omega
      have hres : (m, j, e) = (0, 0, 11) := by rw [← Hrel.out, List.drop_of_length_le (by omega)]; rfl
      have HRES := Lib.hid hres
      clear hres Hrel hacc
      subst hkl'
      go_wp2
      all_goals go_ret3
      all_goals (have hq := HRES.out; simp only [Prod.mk.injEq] at hq; obtain ⟨rfl, rfl, rfl⟩ := hq; exact ⟨rfl, rfl⟩)

theorem ref_step (acc b P : Nat) (h : acc + b % 128 * P < 18446744073709551616) :
    IntKind.u64.wrap ((acc : Int) + IntKind.u64.wrap ((P : Int) * ((b : Int) % 128))) = ((acc + b % 128 * P : Nat) : Int) := by
  have e : (P : Int) * ((b : Int) % 128) = ((b % 128 * P : Nat) : Int) := by rw [Int.natCast_mul, Int.mul_comm]; rfl
  rw [e, IntKind.wrap_u64, IntKind.wrap_u64]
  omega

/-- What holds at the head of a round of ref.Get. -/
def RefGetRel (l : List UInt8) (r : Nat × Nat × Nat) (t q i : Value) : Prop :=
  ∃ k acc P : Nat, t = .int .u64 acc ∧ q = .int .u64 P ∧ i = .int .i64 k ∧ k ≤ l.length ∧ k ≤ 9 ∧ acc < P ∧ Hid (P = 128 ^ k) ∧ Hid (lgetF k acc (l.drop k) = r)

set_option maxHeartbeats 400000 in
set_option maxRecDepth 100000 in
theorem refGet_any (A : Option Addr) (n c : Nat) (l : List UInt8) (w : World) (hr : Rd w w.heap.size A (bvs l)) (hn : l.length = n) (hn1 : n ≤ 9223372036854775807) (m j e : Nat) (hg : lget l = (m, j, e)) :
    Calls Try.prog 39 #[.slice A n c] w fun e' w' => e' = .returned (.tuple #[.int .u64 m, .int .i64 j, .int .i64 e]) ∧ w = w' := by
  subst hn
  have HG := Lib.hid hg
  clear hg
  go_enter Try.func39, Try.ntmps39
  go_wp2
  go_loop [5, 6, 7] (RefGetRel l (m, j, e)) (fun _ _ i => 10 - (intOf i).toNat)
  case atStart => exact ⟨0, 0, 1, rfl, rfl, rfl, by omega, by omega, by decide, rfl, HG.out⟩
  case round =>
    obtain ⟨k, acc, P, rfl, rfl, rfl, hkl, hk9, hacc, HP, Hrel⟩ := hrel
    by_cases hlt : k < l.length
    · obtain ⟨ab, ao, rfl, _, hcell⟩ := hr k _ (bvs_get l k hlt)
      obtain ⟨b, hb⟩ : ∃ b, b = l[k] := ⟨_, rfl⟩
      rw [← hb] at hcell
      have hdrop : l.drop k = b :: l.drop (k + 1) := by rw [hb]; exact List.drop_eq_getElem_cons hlt
      rw [hdrop] at Hrel
      have HD := Lib.hid hdrop
      have HB := Lib.hid hb
      have hb8 := b.toNat_lt
      have hb0 : (0 : Int) ≤ (b.toNat : Int) := by omega
      have hb255 : (b.toNat : Int) ≤ 255 := by omega
      clear hdrop hb
      by_cases c1 : k = 9 ∧ 1 < b.toNat
      · have hres : (m, j, e) = (0, 0, 21) := by rw [← Hrel.out]; simp only [lgetF]; rw [if_pos c1]
        obtain ⟨rfl, c1⟩ := c1
        have HRES := Lib.hid hres
        clear hres
        go_wp2
        go_ret3
        have hq := HRES.out
        simp only [Prod.mk.injEq] at hq
        obtain ⟨rfl, rfl, rfl⟩ := hq
        exact ⟨rfl, rfl⟩
      · by_cases c2 : 128 ≤ b.toNat
        · have hk8 : k ≤ 8 := by omega
          have hn9 : ((k : Int) == 9) = false := by rw [beq_eq_false_iff_ne]; omega
          clear c1
          go_wp2
          have hP9 := pow128_mono (k := k + 1) (by omega)
          have hps : 128 ^ (k + 1) = 128 * P := by rw [HP.out, Nat.pow_succ, Nat.mul_comm]
          have hPp := pow128_pos k
          rw [← HP.out] at hPp
          have hbk : b.toNat % 128 * P ≤ 127 * P := Nat.mul_le_mul_right _ (by omega)
          have hstep := ref_step acc b.toNat P (by omega)
          have hp1 : IntKind.u64.wrap (128 * (P : Int)) = ((128 * P : Nat) : Int) := by rw [IntKind.wrap_u64]; omega
          have hacc1 : acc + b.toNat % 128 * P < 128 * P := by omega
          have Hrel1 : Hid (lgetF (k + 1) (acc + b.toNat % 128 * P) (l.drop (k + 1)) = (m, j, e)) := by
            have h := Hrel.out
            simp only [lgetF] at h
            rw [if_neg (by omega), if_pos c2, ← HP.out, show b.toNat - 128 = b.toNat % 128 by omega] at h
            exact h
          go_round
          case rel => exact ⟨k + 1, _, 128 * P, by rw [hstep], by rw [hp1], by go_num, by omega, by omega, hacc1, hps.symm, Hrel1⟩
          case measure => simp [intOf]; omega
        · have hlt128 : (b.toNat : Int) < 128 := by omega
          by_cases c3 : b.toNat = 0 ∧ 0 < k
          · have hres : (m, j, e) = (0, 0, 21) := by rw [← Hrel.out]; simp only [lgetF]; rw [if_neg c1, if_neg c2, if_pos c3]
            have HRES := Lib.hid hres
            have hcell' : w.cell? ⟨ab, ao + k, none⟩ = some (.int .u8 0) := by rw [hcell, c3.1]; rfl
            have hk0 := c3.2
            clear hres c3 hcell Hrel c1 c2 hacc hb0 hb255 hlt128
            by_cases g9 : k = 9
            · have hk9t : ((k : Int) == 9) = true := by rw [g9]; rfl
              clear g9
              go_wp2
              all_goals go_ret3
              all_goals (have hq := HRES.out; simp only [Prod.mk.injEq] at hq; obtain ⟨rfl, rfl, rfl⟩ := hq; exact ⟨rfl, rfl⟩)
            · have hk9f : ((k : Int) == 9) = false := by rw [beq_eq_false_iff_ne]; omega
              clear g9
              go_wp2
              all_goals go_ret3
              all_goals (have hq := HRES.out; simp only [Prod.mk.injEq] at hq; obtain ⟨rfl, rfl, rfl⟩ := hq; exact ⟨rfl, rfl⟩)
          · have hres : (m, j, e) = (acc + b.toNat * 128 ^ k, k + 1, 0) := by rw [← Hrel.out]; simp only [lgetF]; rw [if_neg c1, if_neg c2, if_neg c3]
            have hbk : b.toNat * P ≤ 9223372036854775808 := by
              rw [HP.out]
              rcases Nat.lt_or_ge k 9 with g | g
              · have h6 : 128 ^ (k + 1) ≤ 9223372036854775808 := pow128_mono (by omega)
                have h7 : b.toNat * 128 ^ k ≤ 127 * 128 ^ k := Nat.mul_le_mul_right _ (by omega)
                have h8 : 128 ^ k * 128 = 128 ^ (k + 1) := rfl
                omega
              · have : k = 9 := by omega
                subst this
                have : b.toNat ≤ 1 := by omega
                have := Nat.mul_le_mul_right (128 ^ 9) this
                rw [pow128_9] at this ⊢
                omega
            have hPm := pow128_mono hk9
            rw [← HP.out] at hPm
            have hstep := ref_step acc b.toNat P (by rw [Nat.mod_eq_of_lt (by omega)]; omega)
            rw [Nat.mod_eq_of_lt (a := b.toNat) (by omega)] at hstep
            rw [← HP.out] at hres
            have HS := Lib.hid hstep
            have HRES := Lib.hid hres
            have hk9i : (k : Int) ≤ 9 := by omega
            by_cases gz : b.toNat = 0
            · have hk00 : k = 0 := by omega
              subst hk00
              have hcell' : w.cell? ⟨ab, ao, none⟩ = some (.int .u8 0) := by have := hcell; rw [gz] at this; simpa using this
              obtain rfl : P = 1 := by simpa using HP.out
              obtain rfl : acc = 0 := by omega
              have GZ := Lib.hid gz
              clear hstep hres hbk hacc Hrel c1 c2 c3 gz hcell hlt128 hk9i hPm
              go_wp2
              all_goals go_ret3
              all_goals (have hq := HRES.out; simp only [Prod.mk.injEq] at hq; obtain ⟨rfl, rfl, rfl⟩ := hq; exact ⟨ret_get (by rw [GZ.out]; decide) (by omega) rfl, rfl⟩)
            · have hz2 : ((b.toNat : Int) == 0) = false := by rw [beq_eq_false_iff_ne]; omega
              have hb1 : k = 9 → (b.toNat : Int) ≤ 1 := by intro g; omega
              by_cases g9 : k = 9
              · have hb1' := hb1 g9
                have hk9t : ((k : Int) == 9) = true := by rw [g9]; rfl
                clear hstep hres hbk hacc Hrel c1 c2 c3 gz hb1 g9 hPm
                go_wp2
                all_goals go_ret3
                all_goals (have hq := HRES.out; simp only [Prod.mk.injEq] at hq; obtain ⟨rfl, rfl, rfl⟩ := hq; exact ⟨ret_get HS.out (by omega) rfl, rfl⟩)
              · have hk9f : ((k : Int) == 9) = false := by rw [beq_eq_false_iff_ne]; omega
                clear hstep hres hbk hacc Hrel c1 c2 c3 gz hb1 g9 hPm
                go_wp2
                all_goals go_ret3
                all_goals (have hq := HRES.out; simp only [Prod.mk.injEq] at hq; obtain ⟨rfl, rfl, rfl⟩ := hq; exact ⟨ret_get HS.out (by omega) rfl, rfl⟩)
    · have hkl' : k = l.length := by omega
      have hres : (m, j, e) = (0, 0, 11) := by rw [← Hrel.out, List.drop_of_length_le (by omega)]; rfl
      have HRES := Lib.hid hres
      clear hres Hrel hacc
      subst hkl'
      go_wp2
      all_goals go_ret3
      all_goals (have hq := HRES.out; simp only [Prod.mk.injEq] at hq; obtain ⟨rfl, rfl, rfl⟩ := hq; exact ⟨rfl, rfl⟩)

end Go.Proofs.Ytlbpolkmhhmkgaa
namespace Go.Proofs.Ytlbpolkmhhmkgaa
open Go.RowKit

/-- A block, as a value. -/
def blkV (mo ra mi co su fr pl : Int) : Value := .agg #[.int .i64 mo, .int .i64 ra, .int .i64 mi, .int .i64 co, .int .u32 su, .int .i64 fr, .int .i64 pl]
/-- May a block be, of blocks of so many bytes? -/
def mayBk (mo ra mi co most : Int) : Bool := decide (0 ≤ mo) && decide (mo ≤ 5) && decide (1 ≤ ra) && decide (ra ≤ most) && (if mo = 0 then decide (mi = 0) && decide (co = ra) else decide (0 ≤ mi) && decide (mi ≤ 3 * ra + 64) && decide (0 ≤ co) && decide (co < ra))
theorem ret_bb {a b : Bool} (h : a = b) : Ending.returned (.bool a) = .returned (.bool b) := by rw [h]
/-- A number of a place on, out of what leb tells. -/
def nbR (r : Nat × Nat × Nat) (a b : Nat) : Nat × Nat × Nat :=
  if r.2.2 = 0 then (if r.1 ≤ 1099511627776 ∧ a ≤ r.1 ∧ r.1 ≤ b then (r.1, r.2.1, 0) else (0, 0, 15)) else if r.2.2 = 21 then (0, 0, 15) else (0, 0, r.2.2)
set_option maxRecDepth 100000 in
set_option maxHeartbeats 2000000 in
theorem refNum_any (A : Option Addr) (n c : Nat) (l : List UInt8) (W : World) (hr : Rd W W.heap.size A (bvs l)) (hn : l.length = n) (hn1 : n ≤ 100000) (a b : Nat) :
    Calls Try.prog 40 #[.slice A n c, .int .i64 (a : Int), .int .i64 (b : Int)] W fun e w' =>
      e = .returned (.tuple #[.int .i64 ((nbR (lget l) a b).1 : Int), .int .i64 ((nbR (lget l) a b).2.1 : Int), .int .i64 ((nbR (lget l) a b).2.2 : Int)]) ∧ w' = W := by
  obtain ⟨m, j, e, hg⟩ : ∃ m j e, lget l = (m, j, e) := ⟨_, _, _, rfl⟩
  have hlg := lget_told l
  rw [hg] at hlg ⊢
  have CG := Lib.hid (refGet_any A n c l W hr hn (by omega) m j e hg)
  clear hr hg
  have hcs : (e = 0 ∧ m < 18446744073709551616) ∨ (m = 0 ∧ j = 0 ∧ e = 11) ∨ (m = 0 ∧ j = 0 ∧ e = 21) := by
    rcases hlg with ⟨q, h1, h2, -, -⟩ | h1 | h1
    · simp only [Prod.mk.injEq] at h1
      exact .inl ⟨h1.2.2, by rw [h1.1]; exact h2⟩
    · simp only [Prod.mk.injEq] at h1
      exact .inr (.inl h1)
    · simp only [Prod.mk.injEq] at h1
      exact .inr (.inr h1)
  clear hlg
  rcases hcs with ⟨rfl, hm⟩ | ⟨rfl, rfl, rfl⟩ | ⟨rfl, rfl, rfl⟩
  · by_cases h40 : m ≤ 1099511627776
    · have h40i : ¬ (1099511627776 : Int) < (m : Int) := by omega
      go_enter Try.func40, Try.ntmps40
      go_wp2_with (go_at_call 39; go_must (refine CG.out.mono ?_; rintro e w' ⟨rfl, hw⟩; subst hw))
      all_goals
        go_ret3
        refine ⟨?_, rfl⟩
        unfold nbR
        rw [if_pos rfl]
        first
          | (rw [if_pos (by omega)]; rfl)
          | (rw [if_neg (by omega)]; rfl)
    · have h40i : (1099511627776 : Int) < (m : Int) := by omega
      go_enter Try.func40, Try.ntmps40
      go_wp2_with (go_at_call 39; go_must (refine CG.out.mono ?_; rintro e w' ⟨rfl, hw⟩; subst hw))
      all_goals
        go_ret3
        refine ⟨?_, rfl⟩
        unfold nbR
        rw [if_pos rfl, if_neg (by omega)]
        rfl
  · go_enter Try.func40, Try.ntmps40
    go_wp2_with (go_at_call 39; go_must (refine CG.out.mono ?_; rintro e w' ⟨rfl, hw⟩; subst hw))
    go_ret3
    exact ⟨rfl, rfl⟩
  · go_enter Try.func40, Try.ntmps40
    go_wp2_with (go_at_call 39; go_must (refine CG.out.mono ?_; rintro e w' ⟨rfl, hw⟩; subst hw))
    go_ret3
    exact ⟨rfl, rfl⟩
/-- What four bytes say, the lowest first. -/
def sum4 (l : List UInt8) : Nat := (l.getD 0 0).toNat + 256 * (l.getD 1 0).toNat + 65536 * (l.getD 2 0).toNat + 16777216 * (l.getD 3 0).toNat
theorem sum4_lt (l : List UInt8) : sum4 l < 4294967296 := by
  unfold sum4
  have h0 := (l.getD 0 0).toNat_lt
  have h1 := (l.getD 1 0).toNat_lt
  have h2 := (l.getD 2 0).toNat_lt
  have h3 := (l.getD 3 0).toNat_lt
  omega
set_option maxRecDepth 100000 in
set_option maxHeartbeats 2000000 in
theorem refBSum_any (A : Option Addr) (n c : Nat) (l : List UInt8) (W : World) (hr : Rd W W.heap.size A (bvs l)) (hn : l.length = n) (h4 : 4 ≤ n) :
    Calls Try.prog 41 #[.slice A n c] W fun e w' => e = .returned (.int .u32 (sum4 l : Int)) ∧ Below W.heap.size W w' := by
  obtain ⟨b, off, rfl, hbl, hcell⟩ := hr.at_ (by rw [bvs_length]; omega)
  have hg : ∀ k, k < 4 → (bvs l)[k]? = some (.int .u8 ((l.getD k 0).toNat : Int)) := fun k hk => by
    unfold bvs
    rw [List.getElem?_map, List.getD_eq_getElem?_getD, List.getElem?_eq_getElem (by omega)]
    rfl
  have c0 := hcell 0 _ (hg 0 (by decide))
  rw [Nat.add_zero] at c0
  have c1 := hcell 1 _ (hg 1 (by decide))
  have c2 := hcell 2 _ (hg 2 (by decide))
  have c3 := hcell 3 _ (hg 3 (by decide))
  obtain ⟨S, hS⟩ : ∃ S : Int, S = (sum4 l : Int) := ⟨_, rfl⟩
  have hs4 : S = ((l.getD 0 0).toNat : Int) + 256 * ((l.getD 1 0).toNat : Int) + 65536 * ((l.getD 2 0).toNat : Int) + 16777216 * ((l.getD 3 0).toNat : Int) := by rw [hS]; unfold sum4; omega
  have hlt := sum4_lt l
  have hlt' : S < 4294967296 := by omega
  rw [← hS]
  clear hS hlt hg hcell hr
  obtain ⟨x0, hx0⟩ : ∃ x : Int, x = ((l.getD 0 0).toNat : Int) := ⟨_, rfl⟩
  obtain ⟨x1, hx1⟩ : ∃ x : Int, x = ((l.getD 1 0).toNat : Int) := ⟨_, rfl⟩
  obtain ⟨x2, hx2⟩ : ∃ x : Int, x = ((l.getD 2 0).toNat : Int) := ⟨_, rfl⟩
  obtain ⟨x3, hx3⟩ : ∃ x : Int, x = ((l.getD 3 0).toNat : Int) := ⟨_, rfl⟩
  have b0 : 0 ≤ x0 ∧ x0 ≤ 255 := by have := (l.getD 0 0).toNat_lt; omega
  have b1 : 0 ≤ x1 ∧ x1 ≤ 255 := by have := (l.getD 1 0).toNat_lt; omega
  have b2 : 0 ≤ x2 ∧ x2 ≤ 255 := by have := (l.getD 2 0).toNat_lt; omega
  have b3 : 0 ≤ x3 ∧ x3 ≤ 255 := by have := (l.getD 3 0).toNat_lt; omega
  rw [← hx0] at c0 hs4
  rw [← hx1] at c1 hs4
  rw [← hx2] at c2 hs4
  rw [← hx3] at c3 hs4
  obtain ⟨b00, b01⟩ := b0
  obtain ⟨b10, b11⟩ := b1
  obtain ⟨b20, b21⟩ := b2
  obtain ⟨b30, b31⟩ := b3
  clear hx0 hx1 hx2 hx3 hn
  have h4i : (4 : Int) ≤ (n : Int) := by omega
  have HS := Lib.hid hs4
  clear hs4
  go_enter Try.func41, Try.ntmps41
  go_wp2_with fail
  go_region
  all_goals
    go_wp2
    go_ret
    rw [HS.out]
    exact ⟨by go_num, (Below.refl _ _).drew⟩
/-- A block's bytes. -/
def blkL (mo ra mi co su : Nat) : List UInt8 := UInt8.ofNat (mo + 1) :: lput ra ++ ((if 0 < mo then lput mi ++ lput co else []) ++ fourL su)
/-- The end's bytes. -/
def endL (n su : Nat) : List UInt8 := 0 :: lput n ++ fourL su
end Go.Proofs.Ytlbpolkmhhmkgaa
