/- Contracts of layer 14: its small functions. -/
import Derived.Test.YtfdgnhfppginiaaNormMath
import Derived.Test.YtfdgnhfppginiaaInts
import Derived.Shelf.Abstract
namespace Go.Proofs.Ytfdgnhfppginiaa
open Go.RowKit Go.Sort Go.Shelf

theorem many_take (c : List Int) (k : Nat) (h : k < c.length) : many (c.take (k + 1)) = many (c.take k) + if 0 < c[k] then 1 else 0 := by
  unfold many; rw [List.take_add_one, List.getElem?_eq_getElem h, List.map_append, List.sum_append]; simp
theorem many_nn (l : List Int) : 0 ≤ many l := by
  induction l with
  | nil => simp [many]
  | cons a l ih => simp only [many, List.map_cons, List.sum_cons] at ih ⊢; split <;> omega
theorem many_le (l : List Int) : many l ≤ l.length := by
  induction l with
  | nil => simp [many]
  | cons a l ih => simp only [many, List.map_cons, List.sum_cons, List.length_cons] at ih ⊢; split <;> omega
theorem many_zero {c : List Int} (hc : ∀ x ∈ c, 0 ≤ x) (h : many c = 0) : c.sum = 0 := by
  induction c with
  | nil => rfl
  | cons a c ih =>
    have h1 := many_nn c
    have h2 := hc a List.mem_cons_self
    have h3 : many (a :: c) = (if 0 < a then 1 else 0) + many c := by simp [many]
    rw [h3] at h
    by_cases h0 : 0 < a
    · rw [if_pos h0] at h; omega
    · rw [if_neg h0] at h
      have := ih (fun x hx => hc x (List.mem_cons_of_mem _ hx)) (by omega)
      simp [this]; omega
theorem cell_of_rd {w : World} {B : Nat} {A : Option Addr} {c : List Int} (hr : Rd w B A (zvs c)) {k : Nat} (h : k < c.length) : ∃ b off, A = some ⟨b, off, none⟩ ∧ b < B ∧ w.cell? ⟨b, off + k, none⟩ = some (.int .i64 (c[k]'h)) :=
  hr k (.int .i64 (c[k]'h)) (by rw [zvs_get, List.getElem?_eq_getElem h]; rfl)

section
variable {w : World} {B : Nat} {A : Option Addr} {n m : Nat} {c : List Int}
set_option maxRecDepth 100000 in
/-- What slices.IndexFunc tells: a place, if one is such, else -1. -/
theorem indexFn_any (K : Nat) (p : Int → Bool) (hE : Enters Try.prog K) (hK : ∀ (x : Int) (W : World), Calls Try.prog K #[.int .i64 x] W fun e w' => e = .returned (.bool (p x)) ∧ w' = W)
    (hr : Rd w B A (zvs c)) (hn : c.length = n) (hn1 : n ≤ 4096) :
    Calls Try.prog 95 #[.slice A n m, .func (.func K) #[] #[]] w fun e w' => ∃ i : Int, e = .returned (.int .i64 i) ∧ w' = w ∧ decide (0 ≤ i) = c.any p := by
  have HE := Lib.hid hE
  have HK := Lib.hid hK
  have HR := Lib.hid hr
  have HC := Lib.hid hn
  clear hE hK hr hn
  go_enter Try.func95, Try.ntmps95
  go_wp2
  go_loopw [8] (fun i wr => ∃ k : Nat, k ≤ n ∧ i = .int .i64 (k : Int) ∧ (c.take k).any p = false ∧ wr = w) (fun i _ => n - (intOf i).toNat)
  case atStart => exact ⟨0, Nat.zero_le _, rfl, by simp, rfl⟩
  case round =>
    obtain ⟨k, hk, rfl, hnot, rfl⟩ := hrel
    have HN := Lib.hid hnot
    clear hnot
    by_cases hlt : k < n
    · have hkc : k < c.length := by have := HC.out; omega
      obtain ⟨b, off, rfl, -, hcell⟩ := cell_of_rd HR.out hkc
      have ht : (c.take (k + 1)).any p = p c[k] := by
        rw [List.take_add_one, List.getElem?_eq_getElem hkc, List.any_append, HN.out]; simp
      have hmem : c[k] ∈ c := List.getElem_mem hkc
      obtain ⟨x, hx⟩ : ∃ x, x = c[k]'hkc := ⟨_, rfl⟩
      rw [← hx] at hcell ht hmem
      have C := Lib.hid (HK.out x wr)
      have HT := Lib.hid ht
      have HM := Lib.hid hmem
      have hki : (k : Int) < (n : Int) := by omega
      obtain ⟨o, ho⟩ : ∃ o, o = p x := ⟨_, rfl⟩
      rw [← ho] at C HT
      have HO := Lib.hid ho
      clear ht hmem hx ho
      cases o with
      | true =>
        go_wp2_with fail
        rw [HE.out]
        refine C.out.mono ?_
        rintro e w' ⟨rfl, hw⟩
        obtain rfl : _ = w' := hw.symm
        go_wp2
        go_ret
        exact ⟨_, rfl, rfl, by rw [List.any_eq_true.2 ⟨x, HM.out, HO.out.symm⟩]; simp⟩
      | false =>
        go_wp2_with fail
        rw [HE.out]
        refine C.out.mono ?_
        rintro e w' ⟨rfl, hw⟩
        obtain rfl : _ = w' := hw.symm
        go_wp2
        go_roundw
        case rel => exact ⟨k + 1, by omega, by go_num, HT.out, trivial⟩
        case measure => simp [intOf]; omega
    · obtain rfl : k = n := by omega
      go_wp2
      go_ret
      have h := HN.out
      rw [List.take_of_length_le (by have := HC.out; omega)] at h
      exact ⟨_, rfl, rfl, by rw [h]; rfl⟩
theorem contains_any (K : Nat) (p : Int → Bool) (hE : Enters Try.prog K) (hK : ∀ (x : Int) (W : World), Calls Try.prog K #[.int .i64 x] W fun e w' => e = .returned (.bool (p x)) ∧ w' = W)
    (hr : Rd w B A (zvs c)) (hn : c.length = n) (hn1 : n ≤ 4096) :
    Calls Try.prog 59 #[.slice A n m, .func (.func K) #[] #[]] w fun e w' => e = .returned (.bool (c.any p)) ∧ w' = w := by
  have C := Lib.hid (indexFn_any (m := m) K p hE hK hr hn hn1)
  clear hE hK hr hn
  go_enter Try.func59, Try.ntmps59
  go_wp2_with fail
  refine C.out.mono ?_
  rintro e w' ⟨i, rfl, hw, ho⟩
  obtain rfl : _ = w' := hw.symm
  go_wp2
  go_ret
  exact ⟨rfl, rfl⟩

/-- A count that may not be. -/
def nBad (x : Int) : Bool := decide (x < 0) || decide (1099511627776 < x)
theorem normWrong_any (x : Int) (w : World) : Calls Try.prog 60 #[.int .i64 x] w fun e w' => e = .returned (.bool (nBad x)) ∧ w' = w := by
  unfold nBad
  go_enter Try.func60, Try.ntmps60
  by_cases h : x < 0
  · rw [decide_eq_true h, Bool.true_or]
    go_wp2
    go_ret
    exact ⟨rfl, rfl⟩
  · rw [decide_eq_false h, Bool.false_or]
    go_wp2
    go_ret
    exact ⟨rfl, rfl⟩
theorem normBad_any (hr : Rd w B A (zvs c)) (hn : c.length = n) (hn1 : n ≤ 4096) :
    Calls Try.prog 59 #[.slice A n m, .func (.func 60) #[] #[]] w fun e w' => e = .returned (.bool (c.any nBad)) ∧ w' = w :=
  contains_any 60 nBad (enters_of Try.func60 (by kernel_rfl) rfl) (fun x W => normWrong_any x W) hr hn hn1

theorem normThere_any (hr : Rd w B A (zvs c)) (hn : c.length = n) (hn1 : n ≤ 4096) :
    Calls Try.prog 61 #[.slice A n m] w fun e w' => e = .returned (.int .i64 (many c)) ∧ w' = w := by
  have HR := Lib.hid hr
  have HC := Lib.hid hn
  clear hr hn
  go_enter Try.func61, Try.ntmps61
  go_wp2
  go_loop [3, 8] (fun s i => ∃ k : Nat, k ≤ n ∧ i = .int .i64 (k : Int) ∧ s = .int .i64 (many (c.take k))) (fun _ i => n - (intOf i).toNat)
  case atStart => exact ⟨0, Nat.zero_le _, rfl, by simp [many]⟩
  case round =>
    obtain ⟨k, hk, rfl, rfl⟩ := hrel
    by_cases hlt : k < n
    · have hkc : k < c.length := by have := HC.out; omega
      obtain ⟨b, off, rfl, -, hcell⟩ := cell_of_rd HR.out hkc
      have hs := many_take c k hkc
      have g0 := many_nn (c.take k)
      have g1 := many_le (c.take k)
      rw [List.length_take] at g1
      obtain ⟨x, hx⟩ : ∃ x, x = c[k]'hkc := ⟨_, rfl⟩
      rw [← hx] at hcell hs
      obtain ⟨s, hss⟩ : ∃ s, s = many (c.take k) := ⟨_, rfl⟩
      rw [← hss] at hs g0 g1 ⊢
      have hki : (k : Int) < (n : Int) := by omega
      have g2 : s ≤ 4096 := by omega
      have HS := Lib.hid hs
      clear hs hx hss g1
      by_cases h0 : 0 < x
      · go_wp2
        go_round
        case rel => exact ⟨k + 1, by omega, by go_num, by rw [HS.out, if_pos h0]⟩
        case measure => simp [intOf]; omega
      · go_wp2
        go_round
        case rel => exact ⟨k + 1, by omega, by go_num, by rw [HS.out, if_neg h0, Int.add_zero]⟩
        case measure => simp [intOf]; omega
    · obtain rfl : k = n := by omega
      rw [List.take_of_length_le (by have := HC.out; omega)]
      go_wp2
      go_ret
      exact ⟨rfl, rfl⟩
theorem normSum_any (hr : Rd w B A (zvs c)) (hn : c.length = n) (hn1 : n ≤ 4096) (hnn : ∀ x ∈ c, 0 ≤ x) (hb : c.sum ≤ 9007199254740992) :
    Calls Try.prog 63 #[.slice A n m] w fun e w' => e = .returned (.int .i64 c.sum) ∧ w' = w := by
  have HR := Lib.hid hr
  have HC := Lib.hid hn
  have HN := Lib.hid hnn
  have HB := Lib.hid hb
  clear hr hn hnn hb
  go_enter Try.func63, Try.ntmps63
  go_wp2
  go_loop [3, 8] (fun s i => ∃ k : Nat, k ≤ n ∧ i = .int .i64 (k : Int) ∧ s = .int .i64 (fPre c k)) (fun _ i => n - (intOf i).toNat)
  case atStart => exact ⟨0, Nat.zero_le _, rfl, by rw [fPre_zero]⟩
  case round =>
    obtain ⟨k, hk, rfl, rfl⟩ := hrel
    by_cases hlt : k < n
    · have hkc : k < c.length := by have := HC.out; omega
      obtain ⟨b, off, rfl, -, hcell⟩ := cell_of_rd HR.out hkc
      have hs := fPre_succ c k hkc
      have g0 := fPre_nn HN.out k
      have g1 := fPre_le HN.out (k + 1)
      have g2 := HN.out _ (List.getElem_mem hkc)
      have g3 := HB.out
      obtain ⟨x, hx⟩ : ∃ x, x = c[k]'hkc := ⟨_, rfl⟩
      rw [← hx] at hcell hs g2
      obtain ⟨s, hss⟩ : ∃ s, s = fPre c k := ⟨_, rfl⟩
      rw [← hss] at hs g0 ⊢
      have HS := Lib.hid hs
      have g4 : s + x ≤ 9007199254740992 := by omega
      have hki : (k : Int) < (n : Int) := by omega
      clear hs g1 g3 hx hss
      go_wp2
      go_round
      case rel => exact ⟨k + 1, by omega, by go_num, by rw [HS.out]⟩
      case measure => simp [intOf]; omega
    · obtain rfl : k = n := by omega
      rw [fPre_most c (by have := HC.out; omega)]
      go_wp2
      go_ret
      exact ⟨rfl, rfl⟩
theorem rnSum_any (hr : Rd w B A (zvs c)) (hn : c.length = n) (hn1 : n ≤ 4096) (hnn : ∀ x ∈ c, 0 ≤ x) (hb : c.sum ≤ 9007199254740992) :
    Calls Try.prog 76 #[.slice A n m] w fun e w' => e = .returned (.int .i64 c.sum) ∧ w' = w := by
  have HR := Lib.hid hr
  have HC := Lib.hid hn
  have HN := Lib.hid hnn
  have HB := Lib.hid hb
  clear hr hn hnn hb
  go_enter Try.func76, Try.ntmps76
  go_wp2
  go_loop [3, 4] (fun s i => ∃ k : Nat, k ≤ n ∧ i = .int .i64 (k : Int) ∧ s = .int .i64 (fPre c k)) (fun _ i => n - (intOf i).toNat)
  case atStart => exact ⟨0, Nat.zero_le _, rfl, by rw [fPre_zero]⟩
  case round =>
    obtain ⟨k, hk, rfl, rfl⟩ := hrel
    by_cases hlt : k < n
    · have hkc : k < c.length := by have := HC.out; omega
      obtain ⟨b, off, rfl, -, hcell⟩ := cell_of_rd HR.out hkc
      have hs := fPre_succ c k hkc
      have g0 := fPre_nn HN.out k
      have g1 := fPre_le HN.out (k + 1)
      have g2 := HN.out _ (List.getElem_mem hkc)
      have g3 := HB.out
      obtain ⟨x, hx⟩ : ∃ x, x = c[k]'hkc := ⟨_, rfl⟩
      rw [← hx] at hcell hs g2
      obtain ⟨s, hss⟩ : ∃ s, s = fPre c k := ⟨_, rfl⟩
      rw [← hss] at hs g0 ⊢
      have HS := Lib.hid hs
      have g4 : s + x ≤ 9007199254740992 := by omega
      have hki : (k : Int) < (n : Int) := by omega
      clear hs g1 g3 hx hss
      go_wp2
      go_round
      case rel => exact ⟨k + 1, by omega, by go_num, by rw [HS.out]⟩
      case measure => simp [intOf]; omega
    · obtain rfl : k = n := by omega
      rw [fPre_most c (by have := HC.out; omega)]
      go_wp2
      go_ret
      exact ⟨rfl, rfl⟩

set_option maxRecDepth 100000 in
/-- greatest: where what is told of a place is greatest, the first of such. -/
theorem normGreatest_any (K : Nat) (cap : Array Value) (hE : Enters Try.prog K) (l : List Int) (hl : l.length = n) (hn0 : 1 ≤ n) (hn1 : n ≤ 4096) (w : World)
    (hK : ∀ j, j < n → Calls Try.prog K (#[.int .i64 (j : Int)] ++ cap) w fun e w' => e = .returned (.int .i64 (l.getD j 0)) ∧ w' = w) :
    Calls Try.prog 64 #[.int .i64 (n : Int), .func (.func K) #[] cap] w fun e w' => ∃ k : Nat, e = .returned (.int .i64 (k : Int)) ∧ IsFirst l k ∧ w' = w := by
  have HE := Lib.hid hE
  have HK := Lib.hid hK
  have HL := Lib.hid hl
  clear hE hK hl
  go_enter Try.func64, Try.ntmps64
  go_wp2
  go_loopw [5, 8] (fun f i wr => ∃ (k a : Nat), k ≤ n ∧ i = .int .i64 (k : Int) ∧ f = .int .i64 (a : Int) ∧ a < n ∧ ((k = 0 ∧ a = 0) ∨ IsFirst (l.take k) a) ∧ wr = w) (fun _ i _ => n - (intOf i).toNat)
  case atStart => exact ⟨0, 0, Nat.zero_le _, rfl, rfl, hn0, .inl ⟨rfl, rfl⟩, rfl⟩
  case round =>
    obtain ⟨k, a, hk, rfl, rfl, ha, hf, rfl⟩ := hrel
    have HF := Lib.hid hf
    clear hf
    by_cases hlt : k < n
    · have C1 := Lib.hid (HK.out k hlt)
      have C2 := Lib.hid (HK.out a ha)
      have hki : (k : Int) < (n : Int) := by omega
      have hnext : IsFirst (l.take (k + 1)) (if l.getD a 0 < l.getD k 0 then k else a) := by
        rcases HF.out with ⟨rfl, rfl⟩ | h
        · rw [if_neg (by omega)]
          exact first_start l (by have := HL.out; omega)
        · exact first_next l h (by have := HL.out; omega)
      obtain ⟨x, hx⟩ : ∃ x, x = l.getD k 0 := ⟨_, rfl⟩
      obtain ⟨y, hy⟩ : ∃ y, y = l.getD a 0 := ⟨_, rfl⟩
      rw [← hx, ← hy] at hnext
      rw [← hx] at C1
      rw [← hy] at C2
      have HX := Lib.hid hnext
      clear hnext hx hy
      by_cases hg : y < x
      · have hx2 := HX.out
        rw [if_pos hg] at hx2
        have HX2 := Lib.hid hx2
        clear hx2
        go_wp2_with fail
        rw [HE.out]
        refine C1.out.mono ?_
        rintro e w' ⟨rfl, hw⟩
        obtain rfl : _ = w' := hw.symm
        go_wp2_with fail
        rw [HE.out]
        refine C2.out.mono ?_
        rintro e w' ⟨rfl, hw⟩
        obtain rfl : _ = w' := hw.symm
        go_wp2
        go_roundw
        case rel => exact ⟨k + 1, k, by omega, by go_num, rfl, hlt, .inr HX2.out, trivial⟩
        case measure => simp [intOf]; omega
      · have hx2 := HX.out
        rw [if_neg hg] at hx2
        have HX2 := Lib.hid hx2
        clear hx2
        go_wp2_with fail
        rw [HE.out]
        refine C1.out.mono ?_
        rintro e w' ⟨rfl, hw⟩
        obtain rfl : _ = w' := hw.symm
        go_wp2_with fail
        rw [HE.out]
        refine C2.out.mono ?_
        rintro e w' ⟨rfl, hw⟩
        obtain rfl : _ = w' := hw.symm
        go_wp2
        go_roundw
        case rel => exact ⟨k + 1, a, by omega, by go_num, rfl, ha, .inr HX2.out, trivial⟩
        case measure => simp [intOf]; omega
    · obtain rfl : k = n := by omega
      have h := HF.out
      rw [List.take_of_length_le (by have := HL.out; omega)] at h
      have HF2 := Lib.hid (show IsFirst l a by
        rcases h with ⟨h0, -⟩ | h
        · omega
        · exact h)
      clear h
      go_wp2
      go_ret
      exact ⟨a, rfl, HF2.out, rfl⟩
/-- The same, where the place is known. -/
theorem normGreatest_at (K : Nat) (cap : Array Value) (hE : Enters Try.prog K) (l : List Int) (hl : l.length = n) (hn1 : n ≤ 4096) (k : Nat) (hk : IsFirst l k) (w : World)
    (hK : ∀ j, j < n → Calls Try.prog K (#[.int .i64 (j : Int)] ++ cap) w fun e w' => e = .returned (.int .i64 (l.getD j 0)) ∧ w' = w) :
    Calls Try.prog 64 #[.int .i64 (n : Int), .func (.func K) #[] cap] w fun e w' => e = .returned (.int .i64 (k : Int)) ∧ w' = w :=
  (normGreatest_any K cap hE l hl (by have := hk.1; omega) hn1 w hK).mono fun e w' ⟨a, h1, h2, h3⟩ => ⟨by rw [h1, h2.one hk], h3⟩
end
end Go.Proofs.Ytfdgnhfppginiaa
