/- Contracts of layer 14: its small functions. -/
import Derived.Test.YtjncmfoommlldaaNormMath
import Derived.Test.YtjncmfoommlldaaInts
import Derived.Shelf.Abstract
namespace Go.Proofs.Ytjncmfoommlldaa
open Go.RowKit Go.Sort Go.Shelf

theorem many_take (c : List Int) (k : Nat) (h : k < c.length) : many (c.take (k + 1)) = many (c.take k) + if 0 < c[k] then 1 else 0 := by
  unfold many; rw [List.take_add_one, List.getElem?_eq_getElem h, List.map_append, List.sum_append]; simp
theorem many_nn (l : List Int) : 0 ≤ many l := by
  induction l with
  | nil => simp [many]
  | cons a l ih => simp only [many, List.map_cons, List.sum_cons] at ih ⊢; split <;> omega
theorem many_le (l : List Int) : many l ≤ l.length := by
  induction l with
  | nil => simp [many]
  | cons a l ih => simp only [many, List.map_cons, List.sum_cons, List.length_cons] at ih ⊢; split <;> omega
theorem many_zero {c : List Int} (hc : ∀ x ∈ c, 0 ≤ x) (h : many c = 0) : c.sum = 0 := by
  induction c with
  | nil => rfl
  | cons a c ih =>
    have h1 := many_nn c
    have h2 := hc a List.mem_cons_self
    have h3 : many (a :: c) = (if 0 < a then 1 else 0) + many c := by simp [many]
    rw [h3] at h
    by_cases h0 : 0 < a
    · rw [if_pos h0] at h; omega
    · rw [if_neg h0] at h
      have := ih (fun x hx => hc x (List.mem_cons_of_mem _ hx)) (by omega)
      simp [this]; omega
theorem cell_of_rd {w : World} {B : Nat} {A : Option Addr} {c : List Int} (hr : Rd w B A (zvs c)) {k : Nat} (h : k < c.length) : ∃ b off, A = some ⟨b, off, none⟩ ∧ b < B ∧ w.cell? ⟨b, off + k, none⟩ = some (.int .i64 (c[k]'h)) :=
  hr k (.int .i64 (c[k]'h)) (by rw [zvs_get, List.getElem?_eq_getElem h]; rfl)

section
variable {w : World} {B : Nat} {A : Option Addr} {n m : Nat} {c : List Int}
set_option maxRecDepth 100000 in
/-- What slices.IndexFunc tells: a place, if one is such, else -1. -/
theorem indexFn_any (K : Nat) (p : Int → Bool) (hE : Enters Try.prog K) (hK : ∀ (x : Int) (W : World), Calls Try.prog K #[.int .i64 x] W fun e w' => e = .returned (.bool (p x)) ∧ w' = W)
    (hr : Rd w B A (zvs c)) (hn : c.length = n) (hn1 : n ≤ 4096) :
    Calls Try.prog 46 #[.slice A n m, .func (.func K) #[] #[]] w fun e w' => ∃ i : Int, e = .returned (.int .i64 i) ∧ w' = w ∧ decide (0 ≤ i) = c.any p := by
  have HE := Lib.hid hE
  have HK := Lib.hid hK
  have HR := Lib.hid hr
  have HC := Lib.hid hn
  clear hE hK hr hn
  go_enter Try.func46, Try.ntmps46
  go_wp2
  go_loopw [8] (fun i wr => ∃ k : Nat, k ≤ n ∧ i = .int .i64 (k : Int) ∧ (c.take k).any p = false ∧ wr = w) (fun i _ => n - (intOf i).toNat)
  case atStart => exact ⟨0, Nat.zero_le _, rfl, by simp, rfl⟩
  case round =>
    obtain ⟨k, hk, rfl, hnot, rfl⟩ := hrel
    have HN := Lib.hid hnot
    clear hnot
    by_cases hlt : k < n
    · have hkc : k < c.length := by have := HC.out; omega
      obtain ⟨b, off, rfl, -, hcell⟩ := cell_of_rd HR.out hkc
      have ht : (c.take (k + 1)).any p = p c[k] := by
        rw [List.take_add_one, List.getElem?_eq_getElem hkc, List.any_append, HN.out]; simp
      have hmem : c[k] ∈ c := List.getElem_mem hkc
      obtain ⟨x, hx⟩ : ∃ x, x = c[k]'hkc := ⟨_, rfl⟩
      rw [← hx] at hcell ht hmem
      have C := Lib.hid (HK.out x wr)
      have HT := Lib.hid ht
      have HM := Lib.hid hmem
      have hki : (k : Int) < (n : Int) := by omega
      obtain ⟨o, ho⟩ : ∃ o, o = p x := ⟨_, rfl⟩
      rw [← ho] at C HT
      have HO := Lib.hid ho
      clear ht hmem hx ho
      cases o with
      | true =>
        go_wp2_with fail
        rw [HE.out]
        refine C.out.mono ?_
        rintro e w' ⟨rfl, hw⟩
        obtain rfl : _ = w' := hw.symm
        go_wp2
        go_ret
        exact ⟨_, rfl, rfl, by rw [List.any_eq_true.2 ⟨x, HM.out, HO.out.symm⟩]; simp⟩
      | false =>
        go_wp2_with fail
        rw [HE.out]
        refine C.out.mono ?_
        rintro e w' ⟨rfl, hw⟩
        obtain rfl : _ = w' := hw.symm
        go_wp2
        go_roundw
        case rel => exact ⟨k + 1, by omega, by go_num, HT.out, trivial⟩
        case measure => simp [intOf]; omega
    · obtain rfl : k = n := by omega
      go_wp2
      go_ret
      have h := HN.out
      rw [List.take_of_length_le (by have := HC.out; omega)] at h
      exact ⟨_, rfl, rfl, by rw [h]; rfl⟩
theorem contains_any (K : Nat) (p : Int → Bool) (hE : Enters Try.prog K) (hK : ∀ (x : Int) (W : World), Calls Try.prog K #[.int .i64 x] W fun e w' => e = .returned (.bool (p x)) ∧ w' = W)
    (hr : Rd w B A (zvs c)) (hn : c.length = n) (hn1 : n ≤ 4096) :
    Calls Try.prog 25 #[.slice A n m, .func (.func K) #[] #[]] w fun e w' => e = .returned (.bool (c.any p)) ∧ w' = w := by
  have C := Lib.hid (indexFn_any (m := m) K p hE hK hr hn hn1)
  clear hE hK hr hn
  go_enter Try.func25, Try.ntmps25
  go_wp2_with fail
  refine C.out.mono ?_
  rintro e w' ⟨i, rfl, hw, ho⟩
  obtain rfl : _ = w' := hw.symm
  go_wp2
  go_ret
  exact ⟨rfl, rfl⟩

/-- A count that may not be. -/
def nBad (x : Int) : Bool := decide (x < 0) || decide (1099511627776 < x)
end
end Go.Proofs.Ytjncmfoommlldaa
