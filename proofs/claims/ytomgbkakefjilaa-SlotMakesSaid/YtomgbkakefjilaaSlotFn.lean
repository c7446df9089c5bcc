/- Contracts of layer 15: fill, the reference's Check, Of, Letter. -/
import Derived.Test.YtomgbkakefjilaaSlotMath
import Derived.Test.YtomgbkakefjilaaNormFn
namespace Go.Proofs.Ytomgbkakefjilaa
open Go.RowKit Go.Sort Go.Shelf

/-- A share that may not be. -/
def sBad (x : Int) : Bool := decide (x < 0)
theorem sBad_not {c : List Int} (h : c.any sBad = false) : ∀ x ∈ c, 0 ≤ x := by
  intro x hx
  have := List.any_eq_false.1 h x hx
  simp [sBad] at this
  exact this
/-- What is told of shares. -/
def SErr (c : List Int) (T : Nat) (err : Int) : Prop :=
  (c.any sBad = true ∧ err = 2) ∨ (c.any sBad = false ∧ (c.sum ≠ (T : Int) ∧ err = 3 ∨ c.sum = (T : Int) ∧ err = 0))
theorem take_any_nn {c : List Int} {j : Nat} (h : (c.take j).any sBad = false) : 0 ≤ fPre c j := by
  have := sum_nn12 (c := c.take j) (sBad_not h)
  exact this
section
variable {w : World} {B : Nat} {A : Option Addr} {n m : Nat} {c : List Int}
theorem slotWrong_any (x : Int) (w : World) : Calls Try.prog 33 #[.int .i64 x] w fun e w' => e = .returned (.bool (sBad x)) ∧ w' = w := by
  unfold sBad
  go_enter Try.func33, Try.ntmps33
  go_wp2
  go_ret
  exact ⟨rfl, rfl⟩
theorem slotBad_any (hr : Rd w B A (zvs c)) (hn : c.length = n) (hn1 : n ≤ 4096) :
    Calls Try.prog 23 #[.slice A n m, .func (.func 33) #[] #[]] w fun e w' => e = .returned (.bool (c.any sBad)) ∧ w' = w :=
  contains_any 33 sBad (enters_of Try.func33 (by kernel_rfl) rfl) (fun x W => slotWrong_any x W) hr hn hn1
theorem slotFill_any (T : Nat) (hT : T ≤ 65536) (hr : Rd w B A (zvs c)) (hn : c.length = n) (hn1 : n ≤ 4096) (hnn : ∀ x ∈ c, 0 ≤ x) (o : Bool) (ho : o = true ↔ c.sum = (T : Int)) :
    Calls Try.prog 34 #[.slice A n m, .int .i64 (T : Int)] w fun e w' => e = .returned (.bool o) ∧ w' = w := by
  have HR := Lib.hid hr
  have HC := Lib.hid hn
  have HN := Lib.hid hnn
  have HO := Lib.hid ho
  clear hr hn hnn ho
  go_enter Try.func34, Try.ntmps34
  go_wp2
  go_loop [1, 9] (fun s i => ∃ (k : Nat) (z : Int), k ≤ n ∧ i = .int .i64 (k : Int) ∧ s = .int .i64 z ∧ 0 ≤ z ∧ z ≤ (T : Int) ∧ z = (T : Int) - fPre c k) (fun _ i => n - (intOf i).toNat)
  case atStart => exact ⟨0, T, Nat.zero_le _, rfl, rfl, by omega, Int.le_refl _, by rw [fPre_zero, Int.sub_zero]⟩
  case round =>
    obtain ⟨k, z, hk, rfl, rfl, hz0, hz1, hz⟩ := hrel
    have HZ := Lib.hid hz
    clear hz
    by_cases hlt : k < n
    · have hkc : k < c.length := by have := HC.out; omega
      obtain ⟨b, off, rfl, -, hcell⟩ := cell_of_rd HR.out hkc
      have hs := fPre_succ c k hkc
      have g1 := fPre_le HN.out (k + 1)
      have g2 := HN.out _ (List.getElem_mem hkc)
      obtain ⟨x, hx⟩ : ∃ x, x = c[k]'hkc := ⟨_, rfl⟩
      rw [← hx] at hcell hs g2
      have hki : (k : Int) < (n : Int) := by omega
      by_cases hg : z < x
      · have hof : o = false := by
          cases o with
          | false => rfl
          | true => have := HO.out.1 rfl; have := HZ.out; omega
        subst hof
        clear hs g1 hx
        go_wp2
        go_ret
        exact ⟨rfl, rfl⟩
      · have HZ2 := Lib.hid (show z - x = (T : Int) - fPre c (k + 1) by have := HZ.out; omega)
        clear hs g1 hx
        go_wp2
        go_round
        case rel => exact ⟨k + 1, z - x, by omega, by go_num, rfl, by omega, by omega, HZ2.out⟩
        case measure => simp [intOf]; omega
    · obtain rfl : k = n := by omega
      have h := HZ.out
      rw [fPre_most c (by have := HC.out; omega)] at h
      have ho2 : (z == 0) = o := by
        cases o with
        | true => have := HO.out.1 rfl; rw [beq_iff_eq]; omega
        | false =>
          rw [beq_eq_false_iff_ne]
          intro e
          have := HO.out.2 (by omega)
          cases this
      clear h HZ
      go_wp2
      go_ret
      exact ⟨rfl, rfl⟩
theorem rsCheck_bits (bits : Int) (h : bits < 1 ∨ 16 < bits) : Calls Try.prog 17 #[.slice A n m, .int .i64 bits] w fun e w' => e = .returned (.int .i64 2) ∧ w' = w := by
  by_cases h1 : bits < 1
  · clear h
    go_enter Try.func17, Try.ntmps17
    go_wp2
    go_ret
    exact ⟨rfl, rfl⟩
  · have h2 : 16 < bits := by omega
    clear h
    go_enter Try.func17, Try.ntmps17
    go_wp2
    go_ret
    exact ⟨rfl, rfl⟩
set_option maxHeartbeats 1000000 in
theorem rsCheck_any (b T : Nat) (hb1 : 1 ≤ b) (hb2 : b ≤ 16) (hT : T = 2 ^ b) (hr : Rd w B A (zvs c)) (hn : c.length = n) (hn1 : n ≤ 4096) (err : Int) (herr : SErr c T err) :
    Calls Try.prog 17 #[.slice A n m, .int .i64 (b : Int)] w fun e w' => e = .returned (.int .i64 err) ∧ w' = w := by
  have HR := Lib.hid hr
  have HC := Lib.hid hn
  have HE := Lib.hid herr
  have HT := Lib.hid hT
  clear hr hn herr hT
  go_enter Try.func17, Try.ntmps17
  go_wp2
  go_loop [5, 6] (fun t i => ∃ k : Nat, k ≤ b ∧ i = .int .i64 (k : Int) ∧ t = .int .i64 ((2 ^ k : Nat) : Int)) (fun _ i => b - (intOf i).toNat)
  case atStart => exact ⟨0, Nat.zero_le _, rfl, rfl⟩
  case round =>
    obtain ⟨k, hk, rfl, rfl⟩ := hrel
    by_cases hlt : k < b
    · have hp : 2 ^ (k + 1) ≤ 65536 := Nat.pow_le_pow_right (n := 2) (by decide) (show k + 1 ≤ 16 by omega)
      have hp2 : 2 ^ (k + 1) = 2 * 2 ^ k := by rw [Nat.pow_succ]; omega
      obtain ⟨P, hP⟩ : ∃ P, P = 2 ^ k := ⟨_, rfl⟩
      rw [← hP] at hp2 ⊢
      rw [hp2] at hp
      have HP := Lib.hid hp2
      have hki : (k : Int) < (b : Int) := by omega
      clear hp2 hP
      go_wp2
      go_round
      case rel => exact ⟨k + 1, by omega, by go_num, by rw [HP.out]; simp⟩
      case measure => simp [intOf]; omega
    · obtain rfl : k = b := by omega
      have hTb : T ≤ 65536 := by rw [HT.out]; exact Nat.pow_le_pow_right (n := 2) (by decide) hb2
      rw [← HT.out]
      clear HT hlt hk
      go_wp2
      go_loop [7, 8] (fun s i => ∃ (j : Nat) (a : Int), j ≤ n ∧ i = .int .i64 (j : Int) ∧ s = .int .i64 a ∧ 0 ≤ a ∧ a ≤ 2 * (T : Int) + 1 ∧ (a = fPre c j ∨ ((T : Int) < a ∧ (T : Int) < fPre c j)) ∧ (c.take j).any sBad = false) (fun _ i => n - (intOf i).toNat)
      case atStart => exact ⟨0, 0, Nat.zero_le _, rfl, rfl, by omega, by omega, .inl (by rw [fPre_zero]), by simp⟩
      case round =>
        obtain ⟨j, a, hj, rfl, rfl, ha0, ha1, hpre, hnb⟩ := hrel
        by_cases hjn : j < n
        · have hjc : j < c.length := by have := HC.out; omega
          obtain ⟨ab, ao, rfl, -, hcell⟩ := cell_of_rd HR.out hjc
          have hs := fPre_succ c j hjc
          have hp0 := take_any_nn hnb
          have ht : (c.take (j + 1)).any sBad = sBad c[j] := by
            rw [List.take_add_one, List.getElem?_eq_getElem hjc, List.any_append, hnb]; simp
          have hmem : c[j] ∈ c := List.getElem_mem hjc
          obtain ⟨x, hx⟩ : ∃ x, x = c[j]'hjc := ⟨_, rfl⟩
          rw [← hx] at hcell hs ht hmem
          have HS := Lib.hid hs
          have HTB := Lib.hid ht
          have HP := Lib.hid hpre
          have hji : (j : Int) < (n : Int) := by omega
          by_cases hx0 : x < 0
          · have h2 : err = 2 := by
              rcases HE.out with ⟨-, h2⟩ | ⟨h1, -⟩
              · exact h2
              · have := sBad_not h1 x hmem; omega
            subst h2
            clear HE hs ht hmem hx hnb hpre
            go_wp2
            go_ret
            exact ⟨rfl, rfl⟩
          · have hnb2 : sBad x = false := by unfold sBad; exact decide_eq_false hx0
            have HNB := Lib.hid hnb2
            by_cases hg : (T : Int) < x
            · have HQ := Lib.hid (show (T : Int) < fPre c (j + 1) by omega)
              clear hs ht hmem hx hnb hpre hnb2 hp0
              go_wp2
              go_round
              case rel => exact ⟨j + 1, (T : Int) + 1, by omega, by go_num, rfl, by omega, by omega, .inr ⟨by omega, HQ.out⟩, by rw [HTB.out, HNB.out]⟩
              case measure => simp [intOf]; omega
            by_cases hga : (T : Int) < a
            · have HQ := Lib.hid (show (T : Int) < fPre c (j + 1) by omega)
              clear hs ht hmem hx hnb hpre hnb2 hp0
              go_wp2
              go_round
              case rel => exact ⟨j + 1, (T : Int) + 1, by omega, by go_num, rfl, by omega, by omega, .inr ⟨by omega, HQ.out⟩, by rw [HTB.out, HNB.out]⟩
              case measure => simp [intOf]; omega
            · have HQ := Lib.hid (show a + x = fPre c (j + 1) by omega)
              clear hs ht hmem hx hnb hpre hnb2 hp0
              go_wp2
              go_round
              case rel => exact ⟨j + 1, a + x, by omega, by go_num, rfl, by omega, by omega, .inl HQ.out, by rw [HTB.out, HNB.out]⟩
              case measure => simp [intOf]; omega
        · obtain rfl : j = n := by omega
          rw [List.take_of_length_le (by have := HC.out; omega)] at hnb
          rw [fPre_most c (by have := HC.out; omega)] at hpre
          have HE3 := Lib.hid (show (c.sum ≠ (T : Int) ∧ err = 3 ∨ c.sum = (T : Int) ∧ err = 0) by
            rcases HE.out with ⟨h1, -⟩ | ⟨-, h2⟩
            · rw [hnb] at h1; cases h1
            · exact h2)
          by_cases h0 : a = (T : Int)
          · have h3 : err = 0 := by
              rcases HE3.out with ⟨h, -⟩ | ⟨-, h⟩
              · omega
              · exact h
            subst h0 h3
            clear HE3 HE hnb hpre
            go_wp2
            go_ret
            exact ⟨rfl, rfl⟩
          · have h3 : err = 3 := by
              rcases HE3.out with ⟨-, h⟩ | ⟨h, -⟩
              · exact h
              · omega
            have hbe : (a == (T : Int)) = false := beq_eq_false_iff_ne.2 h0
            subst h3
            clear HE3 HE hnb hpre
            go_wp2
            go_ret
            exact ⟨rfl, rfl⟩
/-- The reference's Of. -/
theorem rsOf_none (i : Int) (hn : c.length = n) (hi : ¬ (0 ≤ i ∧ i < (c.length : Int))) :
    Calls Try.prog 21 #[.slice A n m, .int .i64 i] w fun e w' => e = .returned (.tuple #[.int .i64 0, .int .i64 0]) ∧ w' = w := by
  rw [hn] at hi
  by_cases h1 : i < 0
  · clear hi hn
    go_enter Try.func21, Try.ntmps21
    go_wp2
    go_ret2
    exact ⟨rfl, rfl⟩
  · have h2 : (n : Int) ≤ i := by omega
    clear hi hn
    go_enter Try.func21, Try.ntmps21
    go_wp2
    go_ret2
    exact ⟨rfl, rfl⟩
set_option maxHeartbeats 1000000 in
theorem rsOf_at (k : Nat) (hr : Rd w B A (zvs c)) (hn : c.length = n) (hn1 : n ≤ 4096) (hnn : ∀ x ∈ c, 0 ≤ x) (hs : c.sum ≤ 65536) (hk : k < c.length) :
    Calls Try.prog 21 #[.slice A n m, .int .i64 (k : Int)] w fun e w' => e = .returned (.tuple #[.int .i64 (fPre c k), .int .i64 (c[k]'hk)]) ∧ Below w.heap.size w w' := by
  have HR := Lib.hid hr
  have HC := Lib.hid hn
  have HN := Lib.hid hnn
  have HS := Lib.hid hs
  have hkn : (k : Int) < (n : Int) := by omega
  obtain ⟨b, off, rfl, -, hck⟩ := cell_of_rd hr hk
  obtain ⟨y, hy⟩ : ∃ y, y = c[k]'hk := ⟨_, rfl⟩
  rw [← hy] at hck ⊢
  clear hr hn hnn hs hy
  go_enter Try.func21, Try.ntmps21
  go_wp2
  go_loop [6, 7] (fun s i => ∃ j : Nat, j ≤ k ∧ i = .int .i64 (j : Int) ∧ s = .int .i64 (fPre c j)) (fun _ i => k - (intOf i).toNat)
  case atStart => exact ⟨0, Nat.zero_le _, rfl, by rw [fPre_zero]⟩
  case round =>
    obtain ⟨j, hj, rfl, rfl⟩ := hrel
    by_cases hlt : j < k
    · have hjc : j < c.length := by have := HC.out; omega
      have hcj := HR.out j (.int .i64 (c[j]'hjc)) (by rw [zvs_get, List.getElem?_eq_getElem hjc]; rfl)
      obtain ⟨b', off', he, -, hcell⟩ := hcj
      injection he with he
      injection he with e1 e2
      subst e1 e2
      have hss := fPre_succ c j hjc
      have g0 := fPre_nn HN.out j
      have g1 := fPre_le HN.out (j + 1)
      have g2 := HN.out _ (List.getElem_mem hjc)
      have g3 := HS.out
      obtain ⟨x, hx⟩ : ∃ x, x = c[j]'hjc := ⟨_, rfl⟩
      rw [← hx] at hcell hss g2
      obtain ⟨s, hss2⟩ : ∃ s, s = fPre c j := ⟨_, rfl⟩
      rw [← hss2] at hss g0 ⊢
      have HSS := Lib.hid hss
      have g4 : s + x ≤ 65536 := by omega
      have hji : (j : Int) < (k : Int) := by omega
      have hjn : (j : Int) < (n : Int) := by omega
      clear hss g1 g3 hx hss2 hck
      go_wp2
      go_round
      case rel => exact ⟨j + 1, by omega, by go_num, by rw [HSS.out]⟩
      case measure => simp [intOf]; omega
    · obtain rfl : j = k := by omega
      go_wp2
      refine wp_region_still_lit (by kernel_rfl) (by kernel_rfl) ?_
      repeat still_step
      refine wpStill_nil ?_
      change Exit.then _ _ _ _ w.drew
      go_wp2
      go_ret2
      exact ⟨rfl, (Below.refl _ _).drew⟩
theorem rsLetter_any (v : Int) (hr : Rd w B A (zvs c)) (hn : c.length = n) (hn1 : n ≤ 4096) (hnn : ∀ x ∈ c, 0 ≤ x) (hs : c.sum ≤ 65536) :
    Calls Try.prog 22 #[.slice A n m, .int .i64 v] w fun e w' => e = .returned (findV (fFind c v)) ∧ w' = w := by
  by_cases hv : v < 0
  · have hf : fFind c v = none := fFind_none hnn (.inl hv)
    rw [hf]
    clear hf
    go_enter Try.func22, Try.ntmps22
    go_wp2
    go_ret2
    exact ⟨rfl, rfl⟩
  · have HR := Lib.hid hr
    have HC := Lib.hid hn
    have HN := Lib.hid hnn
    have HS := Lib.hid hs
    obtain ⟨o, ho⟩ : ∃ o, o = fFind c v := ⟨_, rfl⟩
    rw [← ho]
    have HO := Lib.hid ho
    clear hr hn hnn hs ho
    go_enter Try.func22, Try.ntmps22
    go_wp2
    go_loop [6, 7] (fun s i => ∃ j : Nat, j ≤ n ∧ i = .int .i64 (j : Int) ∧ s = .int .i64 (fPre c j) ∧ fPre c j ≤ v) (fun _ i => n - (intOf i).toNat)
    case atStart => exact ⟨0, Nat.zero_le _, rfl, by rw [fPre_zero], by rw [fPre_zero]; omega⟩
    case round =>
      obtain ⟨j, hj, rfl, rfl, hle⟩ := hrel
      by_cases hlt : j < n
      · have hjc : j < c.length := by have := HC.out; omega
        obtain ⟨b, off, rfl, -, hcell⟩ := cell_of_rd HR.out hjc
        have hss := fPre_succ c j hjc
        have g0 := fPre_nn HN.out j
        have g1 := fPre_le HN.out (j + 1)
        have g2 := HN.out _ (List.getElem_mem hjc)
        have g3 := HS.out
        have hsome : v < fPre c (j + 1) → o = some j := fun h => by rw [HO.out]; exact fFind_some HN.out (by omega) hjc hle h
        obtain ⟨x, hx⟩ : ∃ x, x = c[j]'hjc := ⟨_, rfl⟩
        rw [← hx] at hcell hss g2
        obtain ⟨s, hss2⟩ : ∃ s, s = fPre c j := ⟨_, rfl⟩
        rw [← hss2] at hss g0 hle ⊢
        rw [hss] at hsome
        have HSS := Lib.hid hss
        have g4 : s + x ≤ 65536 := by omega
        have hji : (j : Int) < (n : Int) := by omega
        clear hss g1 g3 hx hss2
        by_cases hg : v < s + x
        · have HSO := Lib.hid (hsome hg)
          clear hsome
          go_wp2
          rw [HSO.out]
          go_ret2
          exact ⟨rfl, rfl⟩
        · clear hsome
          go_wp2
          go_round
          case rel => exact ⟨j + 1, by omega, by go_num, by rw [HSS.out], by rw [HSS.out]; omega⟩
          case measure => simp [intOf]; omega
      · obtain rfl : j = n := by omega
        rw [fPre_most c (by have := HC.out; omega)] at hle ⊢
        have hnone : o = none := by rw [HO.out]; exact fFind_none HN.out (.inr hle)
        subst hnone
        clear HO
        go_wp2
        go_ret2
        exact ⟨rfl, rfl⟩
end
end Go.Proofs.Ytomgbkakefjilaa
