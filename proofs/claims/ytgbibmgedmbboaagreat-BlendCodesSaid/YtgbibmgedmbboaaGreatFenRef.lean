/- Contracts of layer 12's reference: a plain row. -/
import Derived.Test.YtgbibmgedmbboaaGreatFenFind
import Derived.Test.YtgbibmgedmbboaaGreatFenHalve
namespace Go.Proofs.YtgbibmgedmbboaaGreat
open Go.RowKit

set_option maxRecDepth 100000 in
set_option maxHeartbeats 1000000 in
theorem rBelow_any {w : World} {B : Nat} {A : Option Addr} {n m : Nat} {c : List Int} (i : Int) (hr : Rd w B A (zvs c)) (hn : c.length = n) (hnn : ∀ x ∈ c, 0 ≤ x) (htot : c.sum ≤ 1000000000) (hn1 : n ≤ 1000000) (p : Nat) (hp : (p : Int) = min (max i 0) (n : Int)) :
    Calls Tryz.prog 51 #[.slice A n m, .int .i64 i] w fun e w' => e = .returned (.int .i64 (fPre c p)) ∧ w' = w := by
  have HN := Lib.hid hnn
  have HT := Lib.hid htot
  have HC := Lib.hid hn
  clear hnn htot hn
  go_enter Tryz.func51, Tryz.ntmps51
  go_wp2
  go_loop [5, 6] (fun s kk => ∃ k : Nat, k ≤ p ∧ kk = .int .i64 (k : Int) ∧ s = .int .i64 (fPre c k)) (fun _ kk => p - (intOf kk).toNat)
  case atStart => exact ⟨0, Nat.zero_le _, rfl, by rw [fPre_zero]⟩
  case round =>
    obtain ⟨k, hk, rfl, rfl⟩ := hrel
    by_cases hlt : k < p
    · have h1 : (k : Int) < i := by omega
      have h2 : (k : Int) < (n : Int) := by omega
      have hkc : k < c.length := by have := HC.out; omega
      obtain ⟨b, off, rfl, -, hcell⟩ := hr k (.int .i64 (c[k]'hkc)) (by rw [zvs_get, List.getElem?_eq_getElem hkc]; rfl)
      have hs := fPre_succ c k hkc
      have g0 := fPre_nn HN.out k
      have g1 := fPre_le HN.out (k + 1)
      have g2 := HN.out _ (List.getElem_mem hkc)
      have g3 := HT.out
      obtain ⟨x, hx⟩ : ∃ x, x = c[k]'hkc := ⟨_, rfl⟩
      rw [← hx] at hcell hs g2
      obtain ⟨s, hss⟩ : ∃ s, s = fPre c k := ⟨_, rfl⟩
      rw [← hss] at hs g0 ⊢
      have HS := Lib.hid hs
      have g4 : s + x ≤ 1000000000 := by omega
      clear hs g1 g3 hx hss
      go_wp2
      go_round
      case rel => exact ⟨k + 1, by omega, by go_num, by rw [HS.out]⟩
      case measure => simp [intOf]; omega
    · obtain rfl : k = p := by omega
      by_cases h1 : (k : Int) < i
      · have h2 : ¬ ((k : Int) < (n : Int)) := by omega
        go_wp2
        go_ret
        exact ⟨rfl, rfl⟩
      · go_wp2
        go_ret
        exact ⟨rfl, rfl⟩

set_option maxRecDepth 100000 in
set_option maxHeartbeats 1000000 in
theorem rHalve_any {w : World} {B : Nat} {A : Option Addr} {n m : Nat} {c : List Int} (hr : Rd w B A (zvs c)) (hB : B ≤ w.heap.size) (hn : c.length = n) (hnn : ∀ x ∈ c, 0 ≤ x ∧ x ≤ 1000000000) (hn1 : n ≤ 1000000) :
    Calls Tryz.prog 53 #[.slice A n m] w fun e w' => ∃ v, e = .returned v ∧ w'.ownsRow w.heap.size 3 1 v n (zvs (fHalf c)) ∧ Below w.heap.size w w' := by
  obtain ⟨i0, hi, hz0, hz1, hz2⟩ := info_parts info_int12
  have HN := Lib.hid hnn
  have HC := Lib.hid hn
  have HR := Lib.hid hr
  clear hnn hn hr
  go_enter Tryz.func53, Tryz.ntmps53
  go_wp2
  go_loopw [3, 4] (fun v kk wr => ∃ k : Nat, k ≤ n ∧ kk = .int .i64 (k : Int) ∧ wr.ownsRow w.heap.size 3 1 v k (zvs (fHalf (c.take k))) ∧ Below w.heap.size w wr) (fun _ kk _ => n - (intOf kk).toNat)
  case atStart => exact ⟨0, Nat.zero_le _, rfl, World.ownsRow_nil _ _ _ _, Below.refl _ _⟩
  case round =>
    obtain ⟨k, hk, rfl, hown, hb⟩ := hrel
    have hbs := hb.size
    by_cases hlt : k < n
    · have hkc : k < c.length := by have := HC.out; omega
      obtain ⟨b, off, rfl, hbl, hcell0⟩ := HR.out k (.int .i64 (c[k]'hkc)) (by rw [zvs_get, List.getElem?_eq_getElem hkc]; rfl)
      have hcell := (hb.cell (p := ⟨b, off + k, none⟩) (Nat.lt_of_lt_of_le hbl hB)).trans hcell0
      have hx0 := HN.out _ (List.getElem_mem hkc)
      have ht := fHalf_take c k hkc
      obtain ⟨x, hx⟩ : ∃ x, x = c[k]'hkc := ⟨_, rfl⟩
      rw [← hx] at hcell hx0 ht
      obtain ⟨h0, h1⟩ := hx0
      have hki : (k : Int) < (n : Int) := by omega
      have HT := Lib.hid ht
      obtain ⟨Av, cv, rfl, -, -, -⟩ := own_form hown
      clear ht hx hcell0
      go_wp2_with (at_builtin; go_must (refine wpList_app rfl (.tmp 11) (.tmp 18) 72 rfl w.heap.size 3 i0 (.int .i64 0) 1 8 Tryz.underlying72 hi hz0 hz1 hz2 rfl (by decide) _ _ _ rfl (hown.alloc _) _ _ 1 1 _ rfl (Rd.new _ _ _) rfl (by intro u hu; simp at hu; subst hu; rfl) (by simp only [maxLen]; omega) (by omega) (by simp; omega) ?_; intro v1 w1 hown1 hg1; have hb1 : Below w.heap.size w w1 := (hb.alloc hbs _).grown hg1 (by simp; omega) (own_block hown); clear hg1 hown hb))
      go_roundw
      case rel => exact ⟨k + 1, by omega, by go_num, by rw [HT.out]; simpa [zvs] using hown1, hb1⟩
      case measure => simp [intOf]; omega
    · obtain rfl : k = n := by omega
      rw [List.take_of_length_le (by have := HC.out; omega)] at hown
      go_wp2
      go_ret
      exact ⟨_, rfl, hown, hb⟩
end Go.Proofs.YtgbibmgedmbboaaGreat
