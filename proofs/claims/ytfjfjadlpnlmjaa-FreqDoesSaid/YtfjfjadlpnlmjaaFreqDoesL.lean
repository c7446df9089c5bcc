/- Layer 13: the law FreqDoes, whatever comes in. -/
import Derived.Test.YtfjfjadlpnlmjaaFreqDoes
namespace Go.Proofs.Ytfjfjadlpnlmjaa
open Go.RowKit

/-- A slice of numbers that came in reads as a list of numbers. -/
theorem ints_of_row {w : World} {a : Option Addr} {len cap : Nat} {zs : List Int}
    (h : (a = none ∧ len = 0 ∧ cap = 0 ∧ zs = []) ∨ ∃ x, a = some x ∧ len ≤ cap ∧ cap ≤ maxLen ∧ zs.length = cap ∧ (∀ i, i < zs.length → w.cell? (x.add i) = some (.int .i64 (zs.getD i 0))) ∧ ∀ n ∈ zs, (Lit.int .i64 n).wf = true) :
    ∃ l : List Int, l.length = len ∧ Rd w w.heap.size a (zvs l) := by
  rcases h with ⟨rfl, rfl, rfl, rfl⟩ | ⟨x, rfl, hlc, hcm, hz, hcell, hwf⟩
  · exact ⟨[], rfl, Rd.nil_ _ _ _⟩
  · refine ⟨zs.take len, by simp; omega, fun k u hu => ?_⟩
    have hk : k < len := by
      have := (List.getElem?_eq_some_iff.1 hu).1
      simp [zvs] at this
      omega
    obtain ⟨b, off, rfl, hc⟩ := ints_at hcell (by omega)
    have hck := hc k (by omega)
    have he : u = .int .i64 (zs.getD k 0) := by
      rw [zvs_get, List.getElem?_take_of_lt hk, List.getElem?_eq_getElem (by omega)] at hu
      simp at hu
      rw [← hu]
      simp [List.getD_eq_getElem?_getD, List.getElem?_eq_getElem (show k < zs.length by omega)]
    subst he
    exact ⟨b, off, rfl, World.block_lt_of_cell? w _ hck, hck⟩

set_option maxHeartbeats 1000000 in
set_option maxRecDepth 100000 in
theorem freqDoes_law (n st mo v : Int) (A : Option Addr) (L m : Nat) (l : List Int) (w : World) (hr : Rd w w.heap.size A (zvs l)) (hL : l.length = L) (hL63 : L ≤ 9223372036854775807) (r0 : -9223372036854775808 ≤ st) (r1 : st ≤ 9223372036854775807) :
    Calls Try.prog 6 #[.int .i64 n, .int .i64 st, .int .i64 mo, .slice A L m, .int .i64 v] w (Yes w) := by
  have CK := Lib.hid freqKnown_any
  by_cases h60 : 60 < n
  · clear hr hL
    go_enter Try.func6, Try.ntmps6
    go_wp2_with fail
    refine (CK.out _).mono ?_
    rintro e w' ⟨rfl, hb⟩
    go_wp2
    go_ret
    exact ⟨rfl, hb⟩
  by_cases hL100 : 100 < L
  · have h2 : (100 : Int) < (L : Int) := by omega
    clear hr hL
    go_enter Try.func6, Try.ntmps6
    go_wp2_with fail
    refine (CK.out _).mono ?_
    rintro e w' ⟨rfl, hb⟩
    go_wp2
    go_ret
    exact ⟨rfl, hb⟩
  by_cases hM : MayF n st mo
  · obtain ⟨k, rfl⟩ := Int.eq_ofNat_of_zero_le (show 0 ≤ n by unfold MayF at hM; omega)
    exact freqDoes_some k st mo v hM (by omega) A L m l w hr hL (by omega)
  · have h2 : ¬ ((100 : Int) < (L : Int)) := by omega
    have CN := Lib.hid (fun w => freqNew_bad n st mo w hM r0 r1)
    have CM := Lib.hid (fun w => rMay_no n st mo w hM)
    clear hr hL hM
    go_enter Try.func6, Try.ntmps6
    go_wp2_with fail
    refine (CN.out _).mono ?_
    rintro e w' ⟨rfl, hw⟩
    obtain rfl : _ = w' := hw.symm
    go_wp2_with fail
    refine (CM.out _).mono ?_
    rintro e w' ⟨rfl, hw⟩
    obtain rfl : _ = w' := hw.symm
    go_wp2_with fail
    refine (CK.out _).mono ?_
    rintro e w' ⟨rfl, hb⟩
    go_wp2
    go_ret
    exact ⟨rfl, hb⟩
end Go.Proofs.Ytfjfjadlpnlmjaa
