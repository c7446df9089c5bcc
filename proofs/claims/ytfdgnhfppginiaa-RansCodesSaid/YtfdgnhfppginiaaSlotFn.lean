/- Contracts of layer 15: fill, the reference's Check, Of, Letter. -/
import Derived.Test.YtfdgnhfppginiaaSlotMath
import Derived.Test.YtfdgnhfppginiaaNormFn
namespace Go.Proofs.Ytfdgnhfppginiaa
open Go.RowKit Go.Sort Go.Shelf

/-- A share that may not be. -/
def sBad (x : Int) : Bool := decide (x < 0)
theorem sBad_not {c : List Int} (h : c.any sBad = false) : ∀ x ∈ c, 0 ≤ x := by
  intro x hx
  have := List.any_eq_false.1 h x hx
  simp [sBad] at this
  exact this
/-- What is told of shares. -/
def SErr (c : List Int) (T : Nat) (err : Int) : Prop :=
  (c.any sBad = true ∧ err = 2) ∨ (c.any sBad = false ∧ (c.sum ≠ (T : Int) ∧ err = 3 ∨ c.sum = (T : Int) ∧ err = 0))
theorem take_any_nn {c : List Int} {j : Nat} (h : (c.take j).any sBad = false) : 0 ≤ fPre c j := by
  have := sum_nn12 (c := c.take j) (sBad_not h)
  exact this
section
variable {w : World} {B : Nat} {A : Option Addr} {n m : Nat} {c : List Int}
set_option maxRecDepth 100000 in
theorem slotWrong_any (x : Int) (w : World) : Calls Try.prog 69 #[.int .i64 x] w fun e w' => e = .returned (.bool (sBad x)) ∧ w' = w := by
  unfold sBad
  go_enter Try.func69, Try.ntmps69
  go_wp2
  go_ret
  exact ⟨rfl, rfl⟩
theorem slotBad_any (hr : Rd w B A (zvs c)) (hn : c.length = n) (hn1 : n ≤ 4096) :
    Calls Try.prog 59 #[.slice A n m, .func (.func 69) #[] #[]] w fun e w' => e = .returned (.bool (c.any sBad)) ∧ w' = w :=
  contains_any 69 sBad (enters_of Try.func69 (by kernel_rfl) rfl) (fun x W => slotWrong_any x W) hr hn hn1
set_option maxRecDepth 100000 in
theorem slotFill_any (T : Nat) (hT : T ≤ 65536) (hr : Rd w B A (zvs c)) (hn : c.length = n) (hn1 : n ≤ 4096) (hnn : ∀ x ∈ c, 0 ≤ x) (o : Bool) (ho : o = true ↔ c.sum = (T : Int)) :
    Calls Try.prog 70 #[.slice A n m, .int .i64 (T : Int)] w fun e w' => e = .returned (.bool o) ∧ w' = w := by
  have HR := Lib.hid hr
  have HC := Lib.hid hn
  have HN := Lib.hid hnn
  have HO := Lib.hid ho
  clear hr hn hnn ho
  go_enter Try.func70, Try.ntmps70
  go_wp2
  go_loop [1, 9] (fun s i => ∃ (k : Nat) (z : Int), k ≤ n ∧ i = .int .i64 (k : Int) ∧ s = .int .i64 z ∧ 0 ≤ z ∧ z ≤ (T : Int) ∧ z = (T : Int) - fPre c k) (fun _ i => n - (intOf i).toNat)
  case atStart => exact ⟨0, T, Nat.zero_le _, rfl, rfl, by omega, Int.le_refl _, by rw [fPre_zero, Int.sub_zero]⟩
  case round =>
    obtain ⟨k, z, hk, rfl, rfl, hz0, hz1, hz⟩ := hrel
    have HZ := Lib.hid hz
    clear hz
    by_cases hlt : k < n
    · have hkc : k < c.length := by have := HC.out; omega
      obtain ⟨b, off, rfl, -, hcell⟩ := cell_of_rd HR.out hkc
      have hs := fPre_succ c k hkc
      have g1 := fPre_le HN.out (k + 1)
      have g2 := HN.out _ (List.getElem_mem hkc)
      obtain ⟨x, hx⟩ : ∃ x, x = c[k]'hkc := ⟨_, rfl⟩
      rw [← hx] at hcell hs g2
      have hki : (k : Int) < (n : Int) := by omega
      by_cases hg : z < x
      · have hof : o = false := by
          cases o with
          | false => rfl
          | true => have := HO.out.1 rfl; have := HZ.out; omega
        subst hof
        clear hs g1 hx
        go_wp2
        go_ret
        exact ⟨rfl, rfl⟩
      · have HZ2 := Lib.hid (show z - x = (T : Int) - fPre c (k + 1) by have := HZ.out; omega)
        clear hs g1 hx
        go_wp2
        go_round
        case rel => exact ⟨k + 1, z - x, by omega, by go_num, rfl, by omega, by omega, HZ2.out⟩
        case measure => simp [intOf]; omega
    · obtain rfl : k = n := by omega
      have h := HZ.out
      rw [fPre_most c (by have := HC.out; omega)] at h
      have ho2 : (z == 0) = o := by
        cases o with
        | true => have := HO.out.1 rfl; rw [beq_iff_eq]; omega
        | false =>
          rw [beq_eq_false_iff_ne]
          intro e
          have := HO.out.2 (by omega)
          cases this
      clear h HZ
      go_wp2
      go_ret
      exact ⟨rfl, rfl⟩
set_option maxRecDepth 100000 in
/-- The reference's Of. -/
theorem rsOf_none (i : Int) (hn : c.length = n) (hi : ¬ (0 ≤ i ∧ i < (c.length : Int))) :
    Calls Try.prog 29 #[.slice A n m, .int .i64 i] w fun e w' => e = .returned (.tuple #[.int .i64 0, .int .i64 0]) ∧ w' = w := by
  rw [hn] at hi
  by_cases h1 : i < 0
  · clear hi hn
    go_enter Try.func29, Try.ntmps29
    go_wp2
    go_ret2
    exact ⟨rfl, rfl⟩
  · have h2 : (n : Int) ≤ i := by omega
    clear hi hn
    go_enter Try.func29, Try.ntmps29
    go_wp2
    go_ret2
    exact ⟨rfl, rfl⟩
set_option maxRecDepth 100000 in
set_option maxHeartbeats 1000000 in
theorem rsOf_at (k : Nat) (hr : Rd w B A (zvs c)) (hn : c.length = n) (hn1 : n ≤ 4096) (hnn : ∀ x ∈ c, 0 ≤ x) (hs : c.sum ≤ 65536) (hk : k < c.length) :
    Calls Try.prog 29 #[.slice A n m, .int .i64 (k : Int)] w fun e w' => e = .returned (.tuple #[.int .i64 (fPre c k), .int .i64 (c[k]'hk)]) ∧ Below w.heap.size w w' := by
  have HR := Lib.hid hr
  have HC := Lib.hid hn
  have HN := Lib.hid hnn
  have HS := Lib.hid hs
  have hkn : (k : Int) < (n : Int) := by omega
  obtain ⟨b, off, rfl, -, hck⟩ := cell_of_rd hr hk
  obtain ⟨y, hy⟩ : ∃ y, y = c[k]'hk := ⟨_, rfl⟩
  rw [← hy] at hck ⊢
  clear hr hn hnn hs hy
  go_enter Try.func29, Try.ntmps29
  go_wp2
  go_loop [6, 7] (fun s i => ∃ j : Nat, j ≤ k ∧ i = .int .i64 (j : Int) ∧ s = .int .i64 (fPre c j)) (fun _ i => k - (intOf i).toNat)
  case atStart => exact ⟨0, Nat.zero_le _, rfl, by rw [fPre_zero]⟩
  case round =>
    obtain ⟨j, hj, rfl, rfl⟩ := hrel
    by_cases hlt : j < k
    · have hjc : j < c.length := by have := HC.out; omega
      have hcj := HR.out j (.int .i64 (c[j]'hjc)) (by rw [zvs_get, List.getElem?_eq_getElem hjc]; rfl)
      obtain ⟨b', off', he, -, hcell⟩ := hcj
      injection he with he
      injection he with e1 e2
      subst e1 e2
      have hss := fPre_succ c j hjc
      have g0 := fPre_nn HN.out j
      have g1 := fPre_le HN.out (j + 1)
      have g2 := HN.out _ (List.getElem_mem hjc)
      have g3 := HS.out
      obtain ⟨x, hx⟩ : ∃ x, x = c[j]'hjc := ⟨_, rfl⟩
      rw [← hx] at hcell hss g2
      obtain ⟨s, hss2⟩ : ∃ s, s = fPre c j := ⟨_, rfl⟩
      rw [← hss2] at hss g0 ⊢
      have HSS := Lib.hid hss
      have g4 : s + x ≤ 65536 := by omega
      have hji : (j : Int) < (k : Int) := by omega
      have hjn : (j : Int) < (n : Int) := by omega
      clear hss g1 g3 hx hss2 hck
      go_wp2
      go_round
      case rel => exact ⟨j + 1, by omega, by go_num, by rw [HSS.out]⟩
      case measure => simp [intOf]; omega
    · obtain rfl : j = k := by omega
      go_wp2
      refine wp_region_still_lit (by kernel_rfl) (by kernel_rfl) ?_
      repeat still_step
      refine wpStill_nil ?_
      change Exit.then _ _ _ _ w.drew
      go_wp2
      go_ret2
      exact ⟨rfl, (Below.refl _ _).drew⟩
end
end Go.Proofs.Ytfdgnhfppginiaa
