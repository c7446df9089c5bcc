/- The reference's Same: two rows of the same numbers. -/
import Derived.Test.YtcilehndnbnmkaaInts
namespace Go.Proofs.Ytcilehndnbnmkaa
open Go.RowKit Go.Sort

section
variable {w : World} {B B' : Nat} {A A' : Option Addr} {n m m' : Nat} {c : List Int}
set_option maxRecDepth 100000 in
/-- Two rows of the same numbers are the same. -/
theorem rnSame_yes (hr : Rd w B A (zvs c)) (hr' : Rd w B' A' (zvs c)) (hn : c.length = n) (hn1 : n ≤ 4096) :
    Calls Try.prog 24 #[.slice A n m, .slice A' n m'] w fun e w' => e = .returned (.bool true) ∧ Below w.heap.size w w' := by
  have HR := Lib.hid hr
  have HR' := Lib.hid hr'
  have HC := Lib.hid hn
  clear hr hr' hn
  go_enter Try.func24, Try.ntmps24
  go_wp2
  go_loopw [5] (fun i wr => ∃ j : Nat, j ≤ n ∧ i = .int .i64 (j : Int) ∧ wr.heap = w.heap ∧ Below w.heap.size w wr) (fun i _ => n - (intOf i).toNat)
  case atStart => exact ⟨0, Nat.zero_le _, rfl, rfl, Below.refl _ _⟩
  case round =>
    obtain ⟨j, hj, rfl, hh, hb⟩ := hrel
    have HH := Lib.hid hh
    have HB := Lib.hid hb
    clear hb hh
    by_cases hlt : j < n
    · have hjc : j < c.length := by have := HC.out; omega
      obtain ⟨ab, ao, rfl, -, hc1⟩ := cell_of_rd (rd_same HR.out HH.out) hjc
      obtain ⟨ab', ao', rfl, -, hc2⟩ := cell_of_rd (rd_same HR'.out HH.out) hjc
      have hji : (j : Int) < (n : Int) := by omega
      obtain ⟨x, hx⟩ : ∃ x, x = c[j]'hjc := ⟨_, rfl⟩
      rw [← hx] at hc1 hc2
      clear hx
      go_wp2
      go_region
      go_wp2
      go_roundw
      case rel => exact ⟨j + 1, by omega, by go_num, HH.out, HB.out.drew⟩
      case measure => simp [intOf]; omega
    · obtain rfl : j = n := by omega
      go_wp2
      go_ret
      exact ⟨rfl, HB.out⟩
end
end Go.Proofs.Ytcilehndnbnmkaa
