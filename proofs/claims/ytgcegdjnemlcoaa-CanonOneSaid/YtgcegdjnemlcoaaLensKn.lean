/- Layer 20: two rows of the same numbers; the fixed calls. -/
import Derived.Test.YtgcegdjnemlcoaaLensPr
import Derived.Test.YtgcegdjnemlcoaaLRefOf
namespace Go.Proofs.Ytgcegdjnemlcoaa
open Go.RowKit Go.Sort Go.Shelf

theorem here_both {f : For} {a b : Nat} (h : ∀ m, f.here m = true → m < f.N) : ∀ m, (f.both a b).here m = true → m < (f.both a b).N := by
  intro m hm
  rw [For.both_here] at hm
  show m < f.N + 1
  rcases hm with rfl | ⟨-, -, h1⟩
  · omega
  · have := h m h1; omega
theorem least_dec {f : For} {n : Nat} (hn : ∀ m, f.here m = true → m < n) {a : Nat} (h : f.here a = true) (h2 : ∀ m, m < n → f.here m = true → m ≠ a → f.wt a < f.wt m) : f.least (fun m => f.here m = true) a :=
  ⟨h, fun m hm hne => .inl (h2 m (hn m hm) hm hne)⟩
theorem least_dec2 {f : For} {n : Nat} (hn : ∀ m, f.here m = true → m < n) {a b : Nat} (h : f.here b = true ∧ b ≠ a) (h2 : ∀ m, m < n → f.here m = true → m ≠ a → m ≠ b → f.wt b < f.wt m) : f.least (fun m => f.here m = true ∧ m ≠ a) b :=
  ⟨h, fun m hm hne => .inl (h2 m (hn m hm.1) hm.1 hm.2 hne)⟩
theorem known_one : LensOfR [5, 0, 2, 1] [1, 0, 2, 2] := by
  refine .done _ _ ?_ (by unfold Short; decide)
  have e : posL [5, 0, 2, 1] = [5, 2, 1] := by decide
  refine ⟨((For.start 3 (wtL [5, 0, 2, 1])).both 2 1).both 3 0, ?_, by decide⟩
  rw [e]
  have h0 : ∀ m, (For.start 3 (wtL [5, 0, 2, 1])).here m = true → m < 3 := (start_ok 3 _).less
  have h1 := here_both (a := 2) (b := 1) h0
  have h2 := here_both (a := 3) (b := 0) h1
  refine .join _ _ 2 1 (least_dec h0 (by decide) (by decide)) (least_dec2 h0 (by decide) (by decide)) ?_
  refine .join _ _ 3 0 (least_dec h1 (by decide) (by decide)) (least_dec2 h1 (by decide) (by decide)) ?_
  refine .last _ fun m m' hm hm' => ?_
  have h3 : ∀ m, m < 5 → (((For.start 3 (wtL [5, 0, 2, 1])).both 2 1).both 3 0).here m = true → m = 4 := by decide
  rw [h3 m (h2 m hm) hm, h3 m' (h2 m' hm') hm']
theorem known_two : LensOfR [0, 9] [0, 1] := by
  refine .done _ _ ?_ (by unfold Short; decide)
  have e : posL [0, 9] = [9] := by decide
  refine ⟨For.start 1 (wtL [0, 9]), ?_, by decide⟩
  rw [e]
  refine .last _ fun m m' hm hm' => ?_
  have h1 := (start_ok 1 (wtL [0, 9])).less m hm
  have h2 := (start_ok 1 (wtL [0, 9])).less m' hm'
  have h3 : (For.start 1 (wtL [0, 9])).N = 1 := rfl
  omega
section
variable {w : World} {B B' : Nat} {A A' : Option Addr} {n m m' : Nat} {c : List Int}
set_option maxRecDepth 100000 in
/-- Two rows of the same numbers are the same. -/
theorem same_yesL (hr : Rd w B A (zvs c)) (hr' : Rd w B' A' (zvs c)) (hn : c.length = n) (hn1 : n ≤ 4096) :
    Calls Try.prog 9 #[.slice A n m, .slice A' n m'] w fun e w' => e = .returned (.bool true) ∧ Below w.heap.size w w' := by
  have HR := Lib.hid hr
  have HR' := Lib.hid hr'
  have HC := Lib.hid hn
  clear hr hr' hn
  go_enter Try.func9, Try.ntmps9
  go_wp2
  go_loopw [5] (fun i wr => ∃ j : Nat, j ≤ n ∧ i = .int .i64 (j : Int) ∧ wr.heap = w.heap ∧ Below w.heap.size w wr) (fun i _ => n - (intOf i).toNat)
  case atStart => exact ⟨0, Nat.zero_le _, rfl, rfl, Below.refl _ _⟩
  case round =>
    obtain ⟨j, hj, rfl, hh, hb⟩ := hrel
    have HH := Lib.hid hh
    have HB := Lib.hid hb
    clear hb hh
    by_cases hlt : j < n
    · have hjc : j < c.length := by have := HC.out; omega
      obtain ⟨ab, ao, rfl, -, hc1⟩ := cell_of_rd (rd_same HR.out HH.out) hjc
      obtain ⟨ab', ao', rfl, -, hc2⟩ := cell_of_rd (rd_same HR'.out HH.out) hjc
      have hji : (j : Int) < (n : Int) := by omega
      obtain ⟨x, hx⟩ : ∃ x, x = c[j]'hjc := ⟨_, rfl⟩
      rw [← hx] at hc1 hc2
      clear hx
      go_wp2
      go_region
      go_wp2
      go_roundw
      case rel => exact ⟨j + 1, by omega, by go_num, HH.out, HB.out.drew⟩
      case measure => simp [intOf]; omega
    · obtain rfl : j = n := by omega
      go_wp2
      go_ret
      exact ⟨rfl, HB.out⟩
set_option maxHeartbeats 1000000 in
set_option maxRecDepth 100000 in
theorem cost_known (hr : Rd w B A (zvs [5, 0, 2, 1])) (hr' : Rd w B' A' (zvs [1, 0, 2, 2])) :
    Calls Try.prog 20 #[.slice A (4 : Nat) m, .slice A' (4 : Nat) m'] w fun e w' => e = .returned (.int .i64 11) ∧ w' = w := by
  have HR := Lib.hid hr
  have HR' := Lib.hid hr'
  clear hr hr'
  go_enter Try.func20, Try.ntmps20
  go_wp2
  go_loopw [5, 15] (fun s i wr => ∃ j : Nat, j ≤ 4 ∧ i = .int .i64 (j : Int) ∧ s = .int .i64 (([0, 5, 5, 9, 11] : List Int).getD j 0) ∧ wr = w) (fun _ i _ => 4 - (intOf i).toNat)
  case atStart => exact ⟨0, by decide, rfl, rfl, rfl⟩
  case round =>
    obtain ⟨j, hj, rfl, rfl, rfl⟩ := hrel
    rcases (by omega : j = 0 ∨ j = 1 ∨ j = 2 ∨ j = 3 ∨ j = 4) with rfl | rfl | rfl | rfl | rfl
    · obtain ⟨ab, ao, rfl, -, hc1⟩ := cell_of_rd (k := 0) HR.out (by decide)
      obtain ⟨ab', ao', rfl, -, hc2⟩ := cell_of_rd (k := 0) HR'.out (by decide)
      rw [show ([5, 0, 2, 1] : List Int)[0]'(by decide) = 5 from rfl] at hc1
      rw [show ([1, 0, 2, 2] : List Int)[0]'(by decide) = 1 from rfl] at hc2
      simp only [Nat.add_zero] at hc1 hc2
      go_wp2
      go_roundw
      case rel => exact ⟨1, by decide, rfl, rfl, by first | trivial | rfl⟩
      case measure => decide
    · obtain ⟨ab, ao, rfl, -, hc1⟩ := cell_of_rd (k := 1) HR.out (by decide)
      obtain ⟨ab', ao', rfl, -, hc2⟩ := cell_of_rd (k := 1) HR'.out (by decide)
      rw [show ([5, 0, 2, 1] : List Int)[1]'(by decide) = 0 from rfl] at hc1
      rw [show ([1, 0, 2, 2] : List Int)[1]'(by decide) = 0 from rfl] at hc2
      go_wp2
      go_roundw
      case rel => exact ⟨2, by decide, rfl, rfl, by first | trivial | rfl⟩
      case measure => decide
    · obtain ⟨ab, ao, rfl, -, hc1⟩ := cell_of_rd (k := 2) HR.out (by decide)
      obtain ⟨ab', ao', rfl, -, hc2⟩ := cell_of_rd (k := 2) HR'.out (by decide)
      rw [show ([5, 0, 2, 1] : List Int)[2]'(by decide) = 2 from rfl] at hc1
      rw [show ([1, 0, 2, 2] : List Int)[2]'(by decide) = 2 from rfl] at hc2
      go_wp2
      go_roundw
      case rel => exact ⟨3, by decide, rfl, rfl, by first | trivial | rfl⟩
      case measure => decide
    · obtain ⟨ab, ao, rfl, -, hc1⟩ := cell_of_rd (k := 3) HR.out (by decide)
      obtain ⟨ab', ao', rfl, -, hc2⟩ := cell_of_rd (k := 3) HR'.out (by decide)
      rw [show ([5, 0, 2, 1] : List Int)[3]'(by decide) = 1 from rfl] at hc1
      rw [show ([1, 0, 2, 2] : List Int)[3]'(by decide) = 2 from rfl] at hc2
      go_wp2
      go_roundw
      case rel => exact ⟨4, by decide, rfl, rfl, by first | trivial | rfl⟩
      case measure => decide
    · go_wp2
      go_ret
      exact ⟨rfl, rfl⟩
end
set_option maxRecDepth 100000 in
set_option maxHeartbeats 2000000 in
theorem lensKnown_any (w : World) : Calls Try.prog 8 #[] w (Yes w) := by
  have C1 := Lib.hid (lens_Of (w := w.alloc (.cells #[.int .i64 5, .int .i64 0, .int .i64 2, .int .i64 1] 3)) (m := 4) (n := 4) (c := [5, 0, 2, 1]) (Rd.new _ _ _) rfl (by decide) (by unfold Good; decide))
  have HB0 := Lib.hid (show Below w.heap.size w (w.alloc (.cells #[.int .i64 5, .int .i64 0, .int .i64 2, .int .i64 1] 3)) from (Below.refl _ _).alloc (Nat.le_refl _) _)
  go_enter Try.func8, Try.ntmps8
  go_wp2_with fail
  refine C1.out.mono ?_
  rintro e w1 ⟨v1, o1, rfl, ho1, hv1, hb1⟩
  obtain rfl := known_one.one ho1
  obtain ⟨g1, n1, rfl, hn1, -, hk1⟩ := hv1
  obtain rfl : n1 = 4 := hn1
  have HB1 := Lib.hid (HB0.out.trans (hb1.mono HB0.out.size))
  have hb4 : Below w1.heap.size w1 (w1.alloc (.cells #[.int .i64 1, .int .i64 0, .int .i64 2, .int .i64 2] 3)) := (Below.refl _ _).alloc (Nat.le_refl _) _
  have C2 := Lib.hid (same_yesL (w := w1.alloc (.cells #[.int .i64 1, .int .i64 0, .int .i64 2, .int .i64 2] 3)) (c := [1, 0, 2, 2]) (m := 4) (m' := 4) (Rd.of_blk (hk1.grow hb4)) (Rd.new _ _ _) rfl (by decide))
  have HB2 := Lib.hid (HB1.out.trans (hb4.mono HB1.out.size))
  clear hb1 hb4 C1 HB1 HB0 ho1 hk1
  go_wp2_with fail
  refine C2.out.mono ?_
  rintro e w2 ⟨rfl, hb2⟩
  have HB3 := Lib.hid (HB2.out.trans (hb2.mono HB2.out.size))
  have hb5 : Below w2.heap.size w2 (w2.alloc (.cells #[.int .i64 0, .int .i64 9] 3)) := (Below.refl _ _).alloc (Nat.le_refl _) _
  have C3 := Lib.hid (lens_Of (w := w2.alloc (.cells #[.int .i64 0, .int .i64 9] 3)) (m := 2) (n := 2) (c := [0, 9]) (Rd.new _ _ _) rfl (by decide) (by unfold Good; decide))
  have HB4 := Lib.hid (HB3.out.trans (hb5.mono HB3.out.size))
  clear hb2 hb5 C2 HB2 HB3
  go_wp2_with fail
  refine C3.out.mono ?_
  rintro e w3 ⟨v3, o3, rfl, ho3, hv3, hb3⟩
  obtain rfl := known_two.one ho3
  obtain ⟨g3, n3, rfl, hn3, -, hk3⟩ := hv3
  obtain rfl : n3 = 2 := hn3
  have HB5 := Lib.hid (HB4.out.trans (hb3.mono HB4.out.size))
  have hb6 : Below w3.heap.size w3 (w3.alloc (.cells #[.int .i64 0, .int .i64 1] 3)) := (Below.refl _ _).alloc (Nat.le_refl _) _
  have C4 := Lib.hid (same_yesL (w := w3.alloc (.cells #[.int .i64 0, .int .i64 1] 3)) (c := [0, 1]) (m := 2) (m' := 2) (Rd.of_blk (hk3.grow hb6)) (Rd.new _ _ _) rfl (by decide))
  have HB6 := Lib.hid (HB5.out.trans (hb6.mono HB5.out.size))
  clear hb3 hb6 C3 HB4 HB5 ho3 hk3
  go_wp2_with fail
  refine C4.out.mono ?_
  rintro e w4 ⟨rfl, hb7⟩
  have HB7 := Lib.hid (HB6.out.trans (hb7.mono HB6.out.size))
  obtain ⟨w5, hw5⟩ : ∃ w5, w5 = w4.alloc (.cells #[.int .i64 5, .int .i64 0, .int .i64 2, .int .i64 1] 3) := ⟨_, rfl⟩
  have r1 : Rd w5 w5.heap.size (some ⟨w4.heap.size, 0, none⟩) (zvs [5, 0, 2, 1]) := by rw [hw5]; exact Rd.new _ _ _
  have hA : Below w4.heap.size w4 w5 := by rw [hw5]; exact (Below.refl _ _).alloc (Nat.le_refl _) _
  obtain ⟨w6, hw6⟩ : ∃ w6, w6 = w5.alloc (.cells #[.int .i64 1, .int .i64 0, .int .i64 2, .int .i64 2] 3) := ⟨_, rfl⟩
  have hB : Below w5.heap.size w5 w6 := by rw [hw6]; exact (Below.refl _ _).alloc (Nat.le_refl _) _
  have r2 : Rd w6 w6.heap.size (some ⟨w5.heap.size, 0, none⟩) (zvs [1, 0, 2, 2]) := by rw [hw6]; exact Rd.new _ _ _
  have hz : w5.heap.size = w4.heap.size + 1 := by rw [hw5]; simp
  rw [hz] at r2
  have C5 := Lib.hid (cost_known (m := 4) (m' := 4) (r1.below hB) r2)
  have HB8 := Lib.hid (HB7.out.trans ((hA.trans (hB.mono hA.size)).mono HB7.out.size))
  clear hz
  subst hw6
  subst hw5
  clear hb7 hA hB C4 HB6 HB7 r1 r2
  go_wp2_with fail
  refine C5.out.mono ?_
  rintro e w7 ⟨rfl, hw⟩
  subst hw
  clear C5
  go_wp2
  go_ret
  exact ⟨rfl, HB8.out⟩
end Go.Proofs.Ytgcegdjnemlcoaa
