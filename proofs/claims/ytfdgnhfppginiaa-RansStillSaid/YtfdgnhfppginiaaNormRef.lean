/- Layer 14's reference: Check, first, Same, Count. -/
import Derived.Test.YtfdgnhfppginiaaNormAll
namespace Go.Proofs.Ytfdgnhfppginiaa
open Go.RowKit Go.Sort Go.Shelf

/-- What is told of counts. -/
def NErr (c : List Int) (T : Nat) (err : Int) : Prop :=
  (c.any nBad = true ∧ err = 2) ∨ (c.any nBad = false ∧ ((many c = 0 ∨ (T : Int) < many c) ∧ err = 3 ∨ (many c ≠ 0 ∧ many c ≤ (T : Int)) ∧ err = 0))
section
variable {w : World} {B : Nat} {A : Option Addr} {n m : Nat} {c : List Int}
set_option maxRecDepth 100000 in
theorem rnCheck_bits (bits : Int) (h : bits < 1 ∨ 16 < bits) : Calls Try.prog 75 #[.slice A n m, .int .i64 bits] w fun e w' => e = .returned (.int .i64 2) ∧ w' = w := by
  by_cases h1 : bits < 1
  · clear h
    go_enter Try.func75, Try.ntmps75
    go_wp2
    go_ret
    exact ⟨rfl, rfl⟩
  · have h2 : 16 < bits := by omega
    clear h
    go_enter Try.func75, Try.ntmps75
    go_wp2
    go_ret
    exact ⟨rfl, rfl⟩
theorem many_pre {k : Nat} (h : k ≤ n) (hn1 : n ≤ 4096) : 0 ≤ many (c.take k) ∧ many (c.take k) ≤ 4096 := by
  have h1 := many_nn (c.take k)
  have h2 := many_le (c.take k)
  rw [List.length_take] at h2
  omega
set_option maxRecDepth 100000 in
set_option maxHeartbeats 1000000 in
theorem rnCheck_any (b T : Nat) (hb1 : 1 ≤ b) (hb2 : b ≤ 16) (hT : T = 2 ^ b) (hr : Rd w B A (zvs c)) (hn : c.length = n) (hn1 : n ≤ 4096) (err : Int) (herr : NErr c T err) :
    Calls Try.prog 75 #[.slice A n m, .int .i64 (b : Int)] w fun e w' => e = .returned (.int .i64 err) ∧ w' = w := by
  have HR := Lib.hid hr
  have HC := Lib.hid hn
  have HE := Lib.hid herr
  have HT := Lib.hid hT
  clear hr hn herr hT
  go_enter Try.func75, Try.ntmps75
  go_wp2
  go_loop [5, 6] (fun t i => ∃ k : Nat, k ≤ b ∧ i = .int .i64 (k : Int) ∧ t = .int .i64 ((2 ^ k : Nat) : Int)) (fun _ i => b - (intOf i).toNat)
  case atStart => exact ⟨0, Nat.zero_le _, rfl, rfl⟩
  case round =>
    obtain ⟨k, hk, rfl, rfl⟩ := hrel
    by_cases hlt : k < b
    · have hp : 2 ^ (k + 1) ≤ 65536 := Nat.pow_le_pow_right (n := 2) (by decide) (show k + 1 ≤ 16 by omega)
      have hp2 : 2 ^ (k + 1) = 2 * 2 ^ k := by rw [Nat.pow_succ]; omega
      obtain ⟨P, hP⟩ : ∃ P, P = 2 ^ k := ⟨_, rfl⟩
      rw [← hP] at hp2 ⊢
      rw [hp2] at hp
      have HP := Lib.hid hp2
      have hki : (k : Int) < (b : Int) := by omega
      clear hp2 hP
      go_wp2
      go_round
      case rel => exact ⟨k + 1, by omega, by go_num, by rw [HP.out]; simp⟩
      case measure => simp [intOf]; omega
    · obtain rfl : k = b := by omega
      have hTb : T ≤ 65536 := by rw [HT.out]; exact Nat.pow_le_pow_right (n := 2) (by decide) hb2
      rw [← HT.out]
      clear HT hlt hk
      go_wp2
      go_loop [7, 8] (fun s i => ∃ j : Nat, j ≤ n ∧ i = .int .i64 (j : Int) ∧ s = .int .i64 (many (c.take j)) ∧ (c.take j).any nBad = false) (fun _ i => n - (intOf i).toNat)
      case atStart => exact ⟨0, Nat.zero_le _, rfl, by simp [many], by simp⟩
      case round =>
        obtain ⟨j, hj, rfl, rfl, hnb⟩ := hrel
        by_cases hjn : j < n
        · have hjc : j < c.length := by have := HC.out; omega
          obtain ⟨ab, ao, rfl, -, hcell⟩ := cell_of_rd HR.out hjc
          have hs := many_take c j hjc
          have ht : (c.take (j + 1)).any nBad = nBad c[j] := by
            rw [List.take_add_one, List.getElem?_eq_getElem hjc, List.any_append, hnb]; simp
          have hmem : c[j] ∈ c := List.getElem_mem hjc
          obtain ⟨g0, g1⟩ := many_pre (c := c) hj hn1
          obtain ⟨x, hx⟩ : ∃ x, x = c[j]'hjc := ⟨_, rfl⟩
          rw [← hx] at hcell hs ht hmem
          obtain ⟨s, hss⟩ : ∃ s, s = many (c.take j) := ⟨_, rfl⟩
          rw [← hss] at hs g0 g1 ⊢
          have HS := Lib.hid hs
          have HTB := Lib.hid ht
          have HM := Lib.hid hmem
          have hji : (j : Int) < (n : Int) := by omega
          clear hs ht hmem hx hss hnb
          have herr2 : nBad x = true → err = 2 := fun h => by
            rcases HE.out with ⟨-, h2⟩ | ⟨h1, -⟩
            · exact h2
            · have := List.any_eq_false.1 h1 x HM.out
              exact absurd h this
          have HE2 := Lib.hid herr2
          clear herr2
          by_cases hx0 : x < 0
          · have h2 := HE2.out (by unfold nBad; rw [decide_eq_true hx0]; rfl)
            subst h2
            clear HE
            go_wp2
            go_ret
            exact ⟨rfl, rfl⟩
          by_cases hx1 : 1099511627776 < x
          · have h2 := HE2.out (by unfold nBad; rw [decide_eq_true hx1, Bool.or_true])
            subst h2
            clear HE
            go_wp2
            go_ret
            exact ⟨rfl, rfl⟩
          · have hmin : min x 1 = if 0 < x then 1 else 0 := by
              split <;> omega
            have hnb2 : nBad x = false := by unfold nBad; rw [decide_eq_false hx0, decide_eq_false hx1]; rfl
            have h01 : 0 ≤ min x 1 ∧ min x 1 ≤ 1 := by omega
            have HM1 := Lib.hid hmin
            have HNB := Lib.hid hnb2
            obtain ⟨h01, h02⟩ := h01
            clear hmin hnb2
            go_wp2
            go_round
            case rel => exact ⟨j + 1, by omega, by go_num, by rw [HS.out, HM1.out], by rw [HTB.out, HNB.out]⟩
            case measure => simp [intOf]; omega
        · obtain rfl : j = n := by omega
          rw [List.take_of_length_le (by have := HC.out; omega)] at hnb ⊢
          obtain ⟨M, hM⟩ : ∃ M, M = many c := ⟨_, rfl⟩
          have HE3 := Lib.hid (show ((M = 0 ∨ (T : Int) < M) ∧ err = 3 ∨ (M ≠ 0 ∧ M ≤ (T : Int)) ∧ err = 0) by
            rw [hM]
            rcases HE.out with ⟨h1, -⟩ | ⟨-, h2⟩
            · rw [hnb] at h1; cases h1
            · exact h2)
          rw [← hM]
          clear hnb HE hM
          by_cases h0 : M = 0
          · have h3 : err = 3 := by
              rcases HE3.out with ⟨-, h⟩ | ⟨h, -⟩
              · exact h
              · exact absurd h0 h.1
            subst h0 h3
            clear HE3
            go_wp2
            go_ret
            exact ⟨rfl, rfl⟩
          have hbe : (M == 0) = false := beq_eq_false_iff_ne.2 h0
          by_cases h1 : (T : Int) < M
          · have h3 : err = 3 := by
              rcases HE3.out with ⟨-, h⟩ | ⟨h, -⟩
              · exact h
              · have := h.2; omega
            subst h3
            clear HE3
            go_wp2
            go_ret
            exact ⟨rfl, rfl⟩
          · have h3 : err = 0 := by
              rcases HE3.out with ⟨h, -⟩ | ⟨-, h⟩
              · omega
              · exact h
            subst h3
            clear HE3
            go_wp2
            go_ret
            exact ⟨rfl, rfl⟩

set_option maxRecDepth 100000 in
theorem rnFirst_at (hr : Rd w B A (zvs c)) (hn : c.length = n) (hn1 : n ≤ 4096) (k : Nat) (hk : IsFirst c k) :
    Calls Try.prog 77 #[.slice A n m] w fun e w' => e = .returned (.int .i64 (k : Int)) ∧ w'.heap = w.heap ∧ Below w.heap.size w w' := by
  have HR := Lib.hid hr
  have HC := Lib.hid hn
  have HK := Lib.hid hk
  have hn0 : 0 < n := by have := hk.1; omega
  clear hr hn hk
  go_enter Try.func77, Try.ntmps77
  go_wp2
  go_loopw [3, 4] (fun f i wr => ∃ (j a : Nat), 1 ≤ j ∧ j ≤ n ∧ i = .int .i64 (j : Int) ∧ f = .int .i64 (a : Int) ∧ a < n ∧ IsFirst (c.take j) a ∧ wr.heap = w.heap ∧ Below w.heap.size w wr) (fun _ i _ => n - (intOf i).toNat)
  case atStart => exact ⟨1, 0, Nat.le_refl _, hn0, rfl, rfl, hn0, first_start c (by have := HC.out; omega), rfl, Below.refl _ _⟩
  case round =>
    obtain ⟨j, a, hj1, hj, rfl, rfl, ha, hf, hh, hb⟩ := hrel
    have HF := Lib.hid hf
    have HH := Lib.hid hh
    have HB := Lib.hid hb
    clear hf hb hh
    by_cases hlt : j < n
    · have hjc : j < c.length := by have := HC.out; omega
      have hac : a < c.length := by have := HC.out; omega
      obtain ⟨ab, ao, rfl, -, hc1⟩ := cell_of_rd (rd_same HR.out HH.out) hjc
      obtain ⟨ab', ao', he, -, hc2⟩ := cell_of_rd (rd_same HR.out HH.out) hac
      injection he with he
      injection he with he1 he2
      subst he1 he2
      have hji : (j : Int) < (n : Int) := by omega
      have hai : (a : Int) < (n : Int) := by omega
      have hnext := first_next c HF.out hjc
      have e1 : c.getD j 0 = c[j]'hjc := by simp [List.getD_eq_getElem?_getD, hjc]
      have e2 : c.getD a 0 = c[a]'hac := by simp [List.getD_eq_getElem?_getD, hac]
      rw [e1, e2] at hnext
      obtain ⟨x, hx⟩ : ∃ x, x = c[j]'hjc := ⟨_, rfl⟩
      obtain ⟨y, hy⟩ : ∃ y, y = c[a]'hac := ⟨_, rfl⟩
      rw [← hx] at hc1 hnext
      rw [← hy] at hc2 hnext
      have HX := Lib.hid hnext
      clear hnext hx hy e1 e2
      by_cases hg : y < x
      · have hx2 := HX.out
        rw [if_pos hg] at hx2
        have HX2 := Lib.hid hx2
        clear hx2
        go_wp2
        go_region
        go_wp2
        go_roundw
        case rel => exact ⟨j + 1, j, by omega, by omega, by go_num, rfl, hlt, HX2.out, HH.out, HB.out.drew⟩
        case measure => simp [intOf]; omega
      · have hx2 := HX.out
        rw [if_neg hg] at hx2
        have HX2 := Lib.hid hx2
        clear hx2
        go_wp2
        go_region
        go_wp2
        go_roundw
        case rel => exact ⟨j + 1, a, by omega, by omega, by go_num, rfl, ha, HX2.out, HH.out, HB.out.drew⟩
        case measure => simp [intOf]; omega
    · obtain rfl : j = n := by omega
      have h := HF.out
      rw [List.take_of_length_le (by have := HC.out; omega)] at h
      obtain rfl := h.one HK.out
      clear h
      go_wp2
      go_ret
      exact ⟨rfl, HH.out, HB.out⟩
end
end Go.Proofs.Ytfdgnhfppginiaa
