/- Contracts of layer 14: Norm. -/
import Derived.Test.YtfdgnhfppginiaaNormParts
namespace Go.Proofs.Ytfdgnhfppginiaa
open Go.RowKit Go.Sort Go.Shelf

section
variable {w : World} {B : Nat} {A : Option Addr} {n m : Nat} {c : List Int}
set_option maxRecDepth 100000 in
/-- The closures: a place of a row whose slice lies in a box. -/
theorem normOf1_any {b : Nat} (hb : w.cell? ⟨b, 0, none⟩ = some (.slice A n m)) (hr : Rd w B A (zvs c)) (hn : c.length = n) (j : Nat) (hj : j < n) :
    Calls Try.prog 65 #[.int .i64 (j : Int), .pointer (some ⟨b, 0, none⟩)] w fun e w' => e = .returned (.int .i64 (c.getD j 0)) ∧ w' = w := by
  obtain ⟨g, off, rfl, -, hcell⟩ := cell_of_rd hr (show j < c.length by omega)
  have e : c.getD j 0 = c[j]'(by omega) := by simp [List.getD_eq_getElem?_getD, show j < c.length by omega]
  rw [e]
  have hji : (j : Int) < (n : Int) := by omega
  clear hr e
  go_enter Try.func65, Try.ntmps65
  go_wp2
  go_ret
  exact ⟨rfl, rfl⟩
set_option maxRecDepth 100000 in
theorem normOf2_any {b : Nat} (hb : w.cell? ⟨b, 0, none⟩ = some (.slice A n m)) (hr : Rd w B A (zvs c)) (hn : c.length = n) (j : Nat) (hj : j < n) :
    Calls Try.prog 66 #[.int .i64 (j : Int), .pointer (some ⟨b, 0, none⟩)] w fun e w' => e = .returned (.int .i64 (c.getD j 0)) ∧ w' = w := by
  obtain ⟨g, off, rfl, -, hcell⟩ := cell_of_rd hr (show j < c.length by omega)
  have e : c.getD j 0 = c[j]'(by omega) := by simp [List.getD_eq_getElem?_getD, show j < c.length by omega]
  rw [e]
  have hji : (j : Int) < (n : Int) := by omega
  clear hr e
  go_enter Try.func66, Try.ntmps66
  go_wp2
  go_ret
  exact ⟨rfl, rfl⟩
/-- May counts not be? -/
def NArg (c : List Int) (bits : Int) : Prop := bits < 1 ∨ 16 < bits ∨ c.any nBad = true
/-- What Norm tells of none. -/
def NoShares (err : Int) : Ending := .returned (.tuple #[.slice none 0 0, .int .i64 err])
set_option maxRecDepth 100000 in
set_option maxHeartbeats 1000000 in
theorem normNorm_arg (bits : Int) (hr : Rd w w.heap.size A (zvs c)) (hn : c.length = n) (hn1 : n ≤ 4096) (h : NArg c bits) :
    Calls Try.prog 19 #[.slice A n m, .int .i64 bits] w fun e w' => e = NoShares 2 ∧ Below w.heap.size w w' := by
  have HB := Lib.hid (show Below w.heap.size w (w.alloc (.cells #[.slice A n m] 37)) from (Below.refl _ _).alloc (Nat.le_refl _) _)
  have C := Lib.hid (normBad_any (m := m) (hr.alloc (Nat.le_refl _) (.cells #[.slice A n m] 37)) hn hn1)
  unfold NArg at h
  clear hr hn
  by_cases h1 : bits < 1
  · clear h C
    go_enter Try.func19, Try.ntmps19
    go_wp2
    go_ret2
    exact ⟨rfl, HB.out⟩
  by_cases h2 : 16 < bits
  · clear h C
    go_enter Try.func19, Try.ntmps19
    go_wp2
    go_ret2
    exact ⟨rfl, HB.out⟩
  · have h3 : c.any nBad = true := by
      rcases h with h | h | h
      · omega
      · omega
      · exact h
    rw [h3] at C
    clear h h3
    go_enter Try.func19, Try.ntmps19
    go_wp2_with fail
    refine C.out.mono ?_
    rintro e w' ⟨rfl, hw⟩
    obtain rfl : _ = w' := hw.symm
    go_wp2
    go_ret2
    exact ⟨rfl, HB.out⟩
end
end Go.Proofs.Ytfdgnhfppginiaa
