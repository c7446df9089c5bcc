/- Layer 14: Same, Count; the fixed calls. -/
import Derived.Test.YtomgbkakefjilaaNormRef2
namespace Go.Proofs.Ytomgbkakefjilaa
open Go.RowKit Go.Sort Go.Shelf

section
variable {w : World} {B B' : Nat} {A A' : Option Addr} {n m m' : Nat} {c : List Int}
/-- Two rows of the same numbers are the same. -/
theorem rnSame_yes (hr : Rd w B A (zvs c)) (hr' : Rd w B' A' (zvs c)) (hn : c.length = n) (hn1 : n ≤ 4096) :
    Calls Try.prog 11 #[.slice A n m, .slice A' n m'] w fun e w' => e = .returned (.bool true) ∧ Below w.heap.size w w' := by
  have HR := Lib.hid hr
  have HR' := Lib.hid hr'
  have HC := Lib.hid hn
  clear hr hr' hn
  go_enter Try.func11, Try.ntmps11
  go_wp2
  go_loopw [5] (fun i wr => ∃ j : Nat, j ≤ n ∧ i = .int .i64 (j : Int) ∧ wr.heap = w.heap ∧ Below w.heap.size w wr) (fun i _ => n - (intOf i).toNat)
  case atStart => exact ⟨0, Nat.zero_le _, rfl, rfl, Below.refl _ _⟩
  case round =>
    obtain ⟨j, hj, rfl, hh, hb⟩ := hrel
    have HH := Lib.hid hh
    have HB := Lib.hid hb
    clear hb hh
    by_cases hlt : j < n
    · have hjc : j < c.length := by have := HC.out; omega
      obtain ⟨ab, ao, rfl, -, hc1⟩ := cell_of_rd (rd_same HR.out HH.out) hjc
      obtain ⟨ab', ao', rfl, -, hc2⟩ := cell_of_rd (rd_same HR'.out HH.out) hjc
      have hji : (j : Int) < (n : Int) := by omega
      obtain ⟨x, hx⟩ : ∃ x, x = c[j]'hjc := ⟨_, rfl⟩
      rw [← hx] at hc1 hc2
      clear hx
      go_wp2
      go_region
      go_wp2
      go_roundw
      case rel => exact ⟨j + 1, by omega, by go_num, HH.out, HB.out.drew⟩
      case measure => simp [intOf]; omega
    · obtain rfl : j = n := by omega
      go_wp2
      go_ret
      exact ⟨rfl, HB.out⟩
theorem normR_one : NormR [3, 0, 1] 4 [3, 0, 1] := by
  have h1 : ([3, 0, 1] : List Int).map (nShare 4 ([3, 0, 1] : List Int).sum) = [3, 0, 1] := by decide
  unfold NormR
  rw [h1]
  exact .done _
theorem normR_two : NormR [100, 1, 1] 4 [2, 1, 1] := by
  have h1 : ([100, 1, 1] : List Int).map (nShare 4 ([100, 1, 1] : List Int).sum) = [3, 1, 1] := by decide
  unfold NormR
  rw [h1]
  exact .more 0 0 [3, 1, 1] [2, 1, 1] (by unfold IsFirst; decide) (.done _)
theorem known_norm {l r : List Int} (hn : l.length = 3) (hr : Rd w w.heap.size A (zvs l)) (hb : l.any nBad = false) (hm : many l ≠ 0 ∧ many l ≤ 4) (h : NormR l 4 r) :
    Calls Try.prog 9 #[.slice A (3 : Nat) m, .int .i64 2] w fun e w' => ∃ g, e = .returned (.tuple #[.slice (some ⟨g, 0, none⟩) (3 : Nat) 3, .int .i64 0]) ∧ Blk w' g 3 (zvs r) ∧ Below w.heap.size w w' :=
  (normNorm_ok (m := m) 2 4 (by decide) (by decide) rfl hb hr hn (by decide) hm.1 (by simpa using hm.2)).mono fun e w' ⟨g, r', h1, _, h3, h4, h5⟩ => ⟨g, h1, by rw [h.one h3]; exact h4, h5⟩
end
theorem normR_len {c r : List Int} {t : Int} (hc : ∀ x ∈ c, 0 ≤ x) (ht0 : 0 ≤ t) (hs : 0 < c.sum) (ht : many c ≤ t) (h : NormR c t r) : r.length = c.length := (h.keeps hc ht0 hs ht).1.1
set_option maxHeartbeats 2000000 in
theorem normKnown_any (w : World) : Calls Try.prog 8 #[] w (Yes w) := by
  have C1 := Lib.hid (known_norm (w := w.alloc (.cells #[.int .i64 3, .int .i64 0, .int .i64 1] 3)) (m := 3) (l := [3, 0, 1]) rfl (Rd.new _ _ _) (by decide) (by decide) normR_one)
  have HB0 := Lib.hid (show Below w.heap.size w (w.alloc (.cells #[.int .i64 3, .int .i64 0, .int .i64 1] 3)) from (Below.refl _ _).alloc (Nat.le_refl _) _)
  go_enter Try.func8, Try.ntmps8
  go_wp2_with fail
  refine C1.out.mono ?_
  rintro e w1 ⟨g1, rfl, hk1, hb1⟩
  have HK1 := Lib.hid hk1
  have HB1 := Lib.hid (HB0.out.trans (hb1.mono HB0.out.size))
  have C2 := Lib.hid (known_norm (w := w1.alloc (.cells #[.int .i64 100, .int .i64 1, .int .i64 1] 3)) (m := 3) (l := [100, 1, 1]) rfl (Rd.new _ _ _) (by decide) (by decide) normR_two)
  clear hk1 hb1 C1 HB0
  go_wp2_with fail
  refine C2.out.mono ?_
  rintro e w2 ⟨g2, rfl, hk2, hb2⟩
  have hb3 : Below w1.heap.size w1 w2 := ((Below.refl _ _).alloc (Nat.le_refl _) _).trans (hb2.mono (by simp))
  have HK1 := Lib.hid (HK1.out.grow hb3)
  have HK2 := Lib.hid hk2
  have HB2 := Lib.hid (HB1.out.trans (hb3.mono HB1.out.size))
  have hb4 : Below w2.heap.size w2 (w2.alloc (.cells #[.int .i64 3, .int .i64 0, .int .i64 1] 3)) := (Below.refl _ _).alloc (Nat.le_refl _) _
  have C3 := Lib.hid (rnSame_yes (w := w2.alloc (.cells #[.int .i64 3, .int .i64 0, .int .i64 1] 3)) (c := [3, 0, 1]) (m := 3) (m' := 3) (Rd.of_blk (HK1.out.grow hb4)) (Rd.new _ _ _) rfl (by decide))
  have HB3 := Lib.hid (HB2.out.trans (hb4.mono HB2.out.size))
  have HK3 := Lib.hid (HK2.out.grow hb4)
  clear hk2 hb2 hb3 hb4 C2 HK2 HB2 HB1
  go_wp2_with fail
  refine C3.out.mono ?_
  rintro e w3 ⟨rfl, hb5⟩
  have HK4 := Lib.hid (HK3.out.grow hb5)
  have HB4 := Lib.hid (HB3.out.trans (hb5.mono HB3.out.size))
  have hb6 : Below w3.heap.size w3 (w3.alloc (.cells #[.int .i64 2, .int .i64 1, .int .i64 1] 3)) := (Below.refl _ _).alloc (Nat.le_refl _) _
  have C4 := Lib.hid (rnSame_yes (w := w3.alloc (.cells #[.int .i64 2, .int .i64 1, .int .i64 1] 3)) (c := [2, 1, 1]) (m := 3) (m' := 3) (Rd.of_blk (HK4.out.grow hb6)) (Rd.new _ _ _) rfl (by decide))
  have HB5 := Lib.hid (HB4.out.trans (hb6.mono HB4.out.size))
  clear hb5 hb6 C3 HK3 HB3 HB4
  go_wp2_with fail
  refine C4.out.mono ?_
  rintro e w4 ⟨rfl, hb7⟩
  have HB6 := Lib.hid (HB5.out.trans (hb7.mono HB5.out.size))
  clear hb7
  go_wp2
  go_ret
  exact ⟨rfl, HB6.out⟩
end Go.Proofs.Ytomgbkakefjilaa
