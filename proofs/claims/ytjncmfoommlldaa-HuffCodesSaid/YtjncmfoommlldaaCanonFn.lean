/- Layer 21: the program's small functions. -/
import Derived.Test.YtjncmfoommlldaaCanonKey
import Derived.Test.YtjncmfoommlldaaHeapFn
import Derived.Test.YtjncmfoommlldaaLKraft
import Derived.Test.YtjncmfoommlldaaLensR
import Derived.BigRegion
namespace Go.Proofs.Ytjncmfoommlldaa
open Go.RowKit Go.Sort Go.Shelf

/-- A len that may not be. -/
def cBad (x : Int) : Bool := decide (x < 0) || decide (15 < x)
theorem cBad_none {l : List Int} : l.any cBad = false ↔ ∀ x ∈ l, 0 ≤ x ∧ x ≤ 15 := by
  rw [List.any_eq_false]
  constructor
  · intro h x hx
    have := h x hx
    simp [cBad] at this
    omega
  · intro h x hx
    have := h x hx
    simp [cBad]
    omega
theorem canonWrong_any (x : Int) (w : World) : Calls Try.prog 30 #[.int .i64 x] w fun e w' => e = .returned (.bool (cBad x)) ∧ w' = w := by
  unfold cBad
  go_enter Try.func30, Try.ntmps30
  by_cases h : x < 0
  · rw [decide_eq_true h, Bool.true_or]
    go_wp2
    go_ret
    exact ⟨rfl, rfl⟩
  · rw [decide_eq_false h, Bool.false_or]
    go_wp2
    go_ret
    exact ⟨rfl, rfl⟩
/-- Lens that are whole. -/
def WholeC (l : List Int) : Prop := kraftI l = 32768 ∨ posL l = [1]
def wholeB (l : List Int) : Bool := decide (kraftI l = 32768) || decide (posL l = [1])
theorem wholeB_iff (l : List Int) : wholeB l = true ↔ WholeC l := by simp [wholeB, WholeC]
theorem wholeB_no {l : List Int} (h : ¬ WholeC l) : wholeB l = false := by
  cases hb : wholeB l with
  | false => rfl
  | true => exact absurd ((wholeB_iff l).1 hb) h
theorem posL_take (l : List Int) {k : Nat} (h : k < l.length) : posL (l.take (k + 1)) = posL (l.take k) ++ if 0 < l[k] then [l[k]] else [] := by
  unfold posL
  rw [List.take_add_one, List.getElem?_eq_getElem h, List.filter_append]
  congr 1
  by_cases e : 0 < l[k] <;> simp [e]
section
variable {w : World} {A : Option Addr} {n m : Nat} {l : List Int}
set_option maxHeartbeats 1000000 in
set_option maxRecDepth 100000 in
theorem canon_fill {B : Nat} (hr : Rd w B A (zvs l)) (hn : l.length = n) (hn1 : n ≤ 4096) (hl : ∀ x ∈ l, 0 ≤ x ∧ x ≤ 15) :
    Calls Try.prog 31 #[.slice A n m] w fun e w' => e = .returned (.bool (wholeB l)) ∧ w' = w := by
  have HR := Lib.hid hr
  have HC := Lib.hid hn
  have HX := Lib.hid hl
  obtain ⟨v, hv⟩ : ∃ v, v = wholeB l := ⟨_, rfl⟩
  rw [← hv]
  have HV := Lib.hid hv
  clear hr hn hl hv
  go_enter Try.func31, Try.ntmps31
  go_wp2
  go_loopw [3, 4, 5, 7, 10] (fun many parts longest _ i wr => ∃ (k M : Nat) (g : Int), k ≤ n ∧ i = .int .i64 (k : Int) ∧ parts = .int .i64 (kraftI (l.take k) : Int) ∧ many = .int .i64 (M : Int) ∧ longest = .int .i64 g ∧ Hid (M = (posL (l.take k)).length ∧ (M = 1 → posL (l.take k) = [g]) ∧ (M = 0 → g = 0)) ∧ 0 ≤ g ∧ g ≤ 15 ∧ M ≤ k ∧ wr = w) (fun _ _ _ _ i _ => n - (intOf i).toNat)
  case atStart => exact ⟨0, 0, 0, Nat.zero_le _, rfl, rfl, rfl, rfl, Lib.hid ⟨rfl, fun h => by omega, fun _ => rfl⟩, by omega, by omega, Nat.le_refl _, rfl⟩
  case round =>
    obtain ⟨k, M, g, hk, rfl, rfl, rfl, rfl, HM, hg0, hg1, hMk, rfl⟩ := hrel
    by_cases hlt : k < n
    · have hkc : k < l.length := by have := HC.out; omega
      obtain ⟨b, off, rfl, -, hcell⟩ := cell_of_rd HR.out hkc
      have hki : (k : Int) < (n : Int) := by omega
      have ht := kraftI_take l hkc
      have hp := posL_take l hkc
      have hs := kraftI_small (l.take k)
      have hs2 : kraftI (l.take k) ≤ 100000000 := by rw [List.length_take] at hs; omega
      have hx := HX.out _ (List.getElem_mem hkc)
      obtain ⟨x, hxx⟩ : ∃ x, x = l[k]'hkc := ⟨_, rfl⟩
      rw [← hxx] at hcell ht hp hx
      obtain ⟨K, hK⟩ : ∃ K, K = kraftI (l.take k) := ⟨_, rfl⟩
      rw [← hK] at ht hs2 ⊢
      have HT := Lib.hid (And.intro ht hp)
      clear ht hp hs hxx hK
      by_cases h0 : 0 < x
      · obtain ⟨X, rfl⟩ : ∃ X : Nat, x = (X : Int) := ⟨x.toNat, by omega⟩
        obtain ⟨Q, hQ⟩ : ∃ Q, Q = 2 ^ (15 - X) := ⟨_, rfl⟩
        have hQ2 : Q ≤ 32768 := by rw [hQ]; exact (Nat.pow_le_pow_right (n := 2) (by decide) (show 15 - X ≤ 15 by omega) : 2 ^ (15 - X) ≤ 2 ^ 15)
        have e1 : (32768 : Int) / 2 ^ X = (Q : Int) := by
          rw [hQ, show (32768 : Int) = 2 ^ (15 - X) * 2 ^ X by rw [← Int.pow_add, show 15 - X + X = 15 by omega]; rfl, Int.mul_ediv_cancel _ (by exact Int.pow_ne_zero (by decide))]
          simp
        have hE : kraftI (l.take (k + 1)) = K + Q := by
          rw [HT.out.1, hQ, if_pos ⟨by omega, by omega⟩]; simp
        have hM2 : (M + 1 = (posL (l.take (k + 1))).length) ∧ (M + 1 = 1 → posL (l.take (k + 1)) = [max g (X : Int)]) ∧ (M + 1 = 0 → max g (X : Int) = 0) := by
          rw [HT.out.2, if_pos h0]
          refine ⟨by rw [List.length_append, ← HM.out.1]; rfl, fun h => ?_, fun h => by omega⟩
          have hg := HM.out.2.2 (by omega)
          have hn : posL (l.take k) = [] := List.eq_nil_of_length_eq_zero (by rw [← HM.out.1]; omega)
          rw [hn, hg]
          simp
        have HE := Lib.hid (And.intro hE hM2)
        obtain ⟨g2, hg2⟩ : ∃ g2, g2 = max g (X : Int) := ⟨_, rfl⟩
        have hg2b : 0 ≤ g2 ∧ g2 ≤ 15 := by omega
        rw [← hg2] at HE
        have hg2' : max g (X : Int) = g2 := hg2.symm
        clear hQ hE hM2 hg2 HM
        go_wp2
        refine ⟨⟨k + 1, M + 1, g2, by omega, by go_num, by rw [HE.out.1, Int.natCast_add], by go_num, rfl, Lib.hid HE.out.2, hg2b.1, hg2b.2, by omega, trivial⟩, by simp [intOf]; omega⟩
      · have hx0 : x = 0 := by omega
        have HE := Lib.hid (show kraftI (l.take (k + 1)) = K ∧ posL (l.take (k + 1)) = posL (l.take k) by
          rw [HT.out.1, if_neg (by omega), HT.out.2, if_neg h0]; simp)
        go_wp2
        go_roundw
        case rel => exact ⟨k + 1, M, g, by omega, by go_num, by rw [HE.out.1], rfl, rfl, by rw [HE.out.2]; exact HM, hg0, hg1, by omega, trivial⟩
        case measure => simp [intOf]; omega
    · obtain rfl : k = n := by omega
      rw [List.take_of_length_le (by have := HC.out; omega)] at HM ⊢
      have hs := kraftI_small l
      obtain ⟨K, hK⟩ : ∃ K, K = kraftI l := ⟨_, rfl⟩
      rw [← hK] at hs ⊢
      have HK := Lib.hid hK
      clear hs hK
      by_cases hK1 : K = 32768
      · obtain rfl : v = true := by rw [HV.out, wholeB_iff]; exact .inl (by rw [← HK.out]; exact hK1)
        subst hK1
        go_wp2
        go_ret
        exact ⟨rfl, rfl⟩
      · have hK2 : ¬ (K : Int) = 32768 := by omega
        by_cases hM1 : M = 1
        · subst hM1
          have hp := HM.out.2.1 rfl
          by_cases hg : g = 1
          · obtain rfl : v = true := by rw [HV.out, wholeB_iff]; exact .inr (by rw [hp, hg])
            subst hg
            clear hp
            go_wp2
            go_ret
            exact ⟨by simp, rfl⟩
          · obtain rfl : v = false := by
              rw [HV.out]
              refine wholeB_no fun h => ?_
              rcases h with h | h
              · rw [← HK.out] at h; exact hK1 h
              · rw [hp] at h; injection h with h; exact hg h
            clear hp
            go_wp2
            go_ret
            exact ⟨by simp [hK2, hg], rfl⟩
        · obtain rfl : v = false := by
            rw [HV.out]
            refine wholeB_no fun h => ?_
            rcases h with h | h
            · rw [← HK.out] at h; exact hK1 h
            · have := HM.out.1; rw [h] at this; exact hM1 this
          have hM2 : ¬ (M : Int) = 1 := by omega
          go_wp2
          go_ret
          exact ⟨by simp [hK2], rfl⟩
theorem size_code : (Try.prog.info? 59).map (·.size) = some 2 := by kernel_rfl
/-- longer: noughts behind a code. -/
theorem canon_longer (b s S : Nat) (hs : s ≤ S) (hS : S ≤ 15) (hb : b * 2 ^ (S - s) ≤ 1000000) (w : World) :
    Calls Try.prog 33 #[codeV (b, s), .int .i64 (S : Int)] w fun e w' => e = .returned (codeV (b * 2 ^ (S - s), S)) ∧ Below w.heap.size w w' := by
  obtain ⟨d, hd⟩ : ∃ d, d = S - s := ⟨_, rfl⟩
  rw [← hd] at hb ⊢
  unfold codeV codeVI
  simp only
  obtain ⟨Q, hQ⟩ : ∃ Q, Q = b * 2 ^ d := ⟨_, rfl⟩
  have e1 : (b : Int) * 2 ^ d = (Q : Int) := by rw [hQ]; simp
  rw [← hQ] at hb ⊢
  have e2 : (S : Int) - (s : Int) = (d : Int) := by omega
  have e3 : wrap64 (Q : Int) = (Q : Int) := by rw [IntWalk.wrap64_in _ (by omega)]
  have hd15 : d ≤ 15 := by omega
  clear hQ hd hs hS
  go_enter Try.func33, Try.ntmps33
  go_wp2
  have h2 := heap_alloc2_new w (.cells #[.int .i64 (b : Int), .int .i64 (s : Int)] 59) (.cells #[.int .i64 (Q : Int), .int .i64 (S : Int)] 59)
  exact bodyPost_ret (v := .agg #[.int .i64 (Q : Int), .int .i64 (S : Int)]) (results_cell_row Try.results33 _ _ (w.heap.size + 1) 59 _ (0, 0) _ rfl h2 Try.underlying59 rfl size_code) rfl ⟨rfl, ((Below.refl _ _).alloc (Nat.le_refl _) _).alloc (by simp) _⟩
end
end Go.Proofs.Ytjncmfoommlldaa
