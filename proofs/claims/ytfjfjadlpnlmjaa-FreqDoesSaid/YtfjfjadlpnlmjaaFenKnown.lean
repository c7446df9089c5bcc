/- Layer 12: the fixed calls; of a tree that is none. -/
import Derived.Test.YtfjfjadlpnlmjaaFenAdd2
import Derived.Test.YtfjfjadlpnlmjaaFenFind
import Derived.Test.YtfjfjadlpnlmjaaFenRef
namespace Go.Proofs.Ytfjfjadlpnlmjaa
open Go.RowKit

theorem known_add1 {w : World} {T S : Nat} (h : IsTree w T S [0, 0, 0]) : Calls Try.prog 12 #[.pointer (some ⟨T, 0, none⟩), .int .i64 0, .int .i64 2] w fun e w' => e = .returned (.int .i64 0) ∧ IsTree w' T S [2, 0, 0] ∧ TurnsB T S w w' :=
  fenAdd_any 0 2 h (by decide) (by decide) (by decide)
theorem known_add2 {w : World} {T S : Nat} (h : IsTree w T S [2, 0, 0]) : Calls Try.prog 12 #[.pointer (some ⟨T, 0, none⟩), .int .i64 2, .int .i64 5] w fun e w' => e = .returned (.int .i64 0) ∧ IsTree w' T S [2, 0, 5] ∧ TurnsB T S w w' :=
  fenAdd_any 2 5 h (by decide) (by decide) (by decide)
theorem known_find {w : World} {T S : Nat} (h : IsTree w T S [2, 0, 5]) : Calls Try.prog 15 #[.pointer (some ⟨T, 0, none⟩), .int .i64 2] w fun e w' => e = .returned (.tuple #[.int .i64 2, .bool true]) ∧ w' = w :=
  fenFind_some 2 2 h (by decide)
theorem known_below {w : World} {T S : Nat} (h : IsTree w T S [2, 0, 5]) : Calls Try.prog 18 #[.pointer (some ⟨T, 0, none⟩), .int .i64 2] w fun e w' => e = .returned (.int .i64 2) ∧ Below w.heap.size w w' :=
  fenBelow_any 2 h 2 (by decide)
theorem known_get {w : World} {T S : Nat} (h : IsTree w T S [2, 0, 5]) : Calls Try.prog 20 #[.pointer (some ⟨T, 0, none⟩), .int .i64 2] w fun e w' => e = .returned (.int .i64 5) ∧ Below w.heap.size w w' :=
  fenGet_at 2 h (by decide)
theorem known_total {w : World} {T S : Nat} (h : IsTree w T S [2, 0, 5]) : Calls Try.prog 17 #[.pointer (some ⟨T, 0, none⟩)] w fun e w' => e = .returned (.int .i64 7) ∧ w' = w :=
  fenTotal_any h.2
theorem known_len {w : World} {T S : Nat} (h : IsTree w T S [2, 0, 5]) : Calls Try.prog 19 #[.pointer (some ⟨T, 0, none⟩)] w fun e w' => e = .returned (.int .i64 3) ∧ w' = w :=
  fenLen_any h.2 (by decide)
theorem known_new (w : World) : Calls Try.prog 10 #[.int .i64 3] w fun e w' => ∃ T, e = .returned (.pointer (some ⟨T, 0, none⟩)) ∧ ∃ S, IsTree w' T S [0, 0, 0] ∧ (w.heap.size ≤ T ∧ w.heap.size ≤ S) ∧ Below w.heap.size w w' :=
  fenNew_any 3 w (by decide) (by decide)

set_option maxHeartbeats 4000000 in
theorem fenKnown_any (w : World) : Calls Try.prog 9 #[] w (Yes w) := by
  go_enter Try.func9, Try.ntmps9
  go_wp2_with fail
  refine (known_new _).mono ?_
  rintro e w1 ⟨T, rfl, S, ht1, ⟨hT, hS⟩, hb1⟩
  have HT1 := Lib.hid ht1
  have HB1 := Lib.hid hb1
  have HTS := Lib.hid (And.intro hT hS)
  clear ht1 hb1 hT hS
  go_wp2_with fail
  refine (known_add1 HT1.out).mono ?_
  rintro e w2 ⟨rfl, ht2, hu2⟩
  have HT2 := Lib.hid ht2
  have HB2 := Lib.hid (HB1.out.trans (hu2.below HTS.out.1 HTS.out.2 HB1.out.size))
  clear ht2 hu2
  go_wp2_with fail
  refine (known_add2 HT2.out).mono ?_
  rintro e w3 ⟨rfl, ht3, hu3⟩
  have HT3 := Lib.hid ht3
  have HB3 := Lib.hid (HB2.out.trans (hu3.below HTS.out.1 HTS.out.2 HB2.out.size))
  clear ht3 hu3
  go_wp2_with fail
  refine (known_find HT3.out).mono ?_
  rintro e w' ⟨rfl, hw⟩
  obtain rfl : _ = w' := hw.symm
  go_wp2_with fail
  refine (known_below HT3.out).mono ?_
  rintro e w4 ⟨rfl, hb4⟩
  have HT4 := Lib.hid (HT3.out.grow hb4)
  have HB4 := Lib.hid (HB3.out.trans (hb4.mono HB3.out.size))
  clear hb4
  go_wp2_with fail
  refine (known_total HT4.out).mono ?_
  rintro e w' ⟨rfl, hw⟩
  obtain rfl : _ = w' := hw.symm
  go_wp2_with fail
  refine (known_get HT4.out).mono ?_
  rintro e w5 ⟨rfl, hb5⟩
  have HT5 := Lib.hid (HT4.out.grow hb5)
  have HB5 := Lib.hid (HB4.out.trans (hb5.mono HB4.out.size))
  clear hb5
  go_wp2_with fail
  refine (known_len HT5.out).mono ?_
  rintro e w' ⟨rfl, hw⟩
  obtain rfl : _ = w' := hw.symm
  go_wp2
  go_ret
  exact ⟨rfl, HB5.out⟩

/- a tree that is none -/
theorem fenLen_nil (w : World) : Calls Try.prog 19 #[.pointer none] w fun e w' => e = .returned (.int .i64 0) ∧ w' = w := by
  go_enter Try.func19, Try.ntmps19
  go_wp2
  go_ret
  exact ⟨rfl, rfl⟩
theorem fenTotal_nil (w : World) : Calls Try.prog 17 #[.pointer none] w fun e w' => e = .returned (.int .i64 0) ∧ w' = w := by
  go_enter Try.func17, Try.ntmps17
  go_wp2
  go_ret
  exact ⟨rfl, rfl⟩
theorem fenHas_nil (i : Int) (w : World) : Calls Try.prog 31 #[.pointer none, .int .i64 i] w fun e w' => e = .returned (.bool false) ∧ w' = w := by
  by_cases h0 : 0 ≤ i
  · have h1 : ¬ (i < 0) := by omega
    go_enter Try.func31, Try.ntmps31
    go_wp2_with (go_at_call 19; refine (fenLen_nil _).mono ?_; rintro e w' ⟨rfl, hw⟩; obtain rfl : _ = w' := hw.symm)
    go_ret
    exact ⟨by simp [h1], rfl⟩
  · go_enter Try.func31, Try.ntmps31
    go_wp2
    go_ret
    exact ⟨rfl, rfl⟩
theorem fenFind_nil (v : Int) (w : World) : Calls Try.prog 15 #[.pointer none, .int .i64 v] w fun e w' => e = .returned (.tuple #[.int .i64 0, .bool false]) ∧ w' = w := by
  by_cases h0 : v < 0
  · go_enter Try.func15, Try.ntmps15
    go_wp2
    go_ret2
    exact ⟨rfl, rfl⟩
  · have h1 : 0 ≤ v := by omega
    go_enter Try.func15, Try.ntmps15
    go_wp2_with (go_at_call 17; refine (fenTotal_nil _).mono ?_; rintro e w' ⟨rfl, hw⟩; obtain rfl : _ = w' := hw.symm)
    go_ret2
    exact ⟨rfl, rfl⟩
end Go.Proofs.Ytfjfjadlpnlmjaa
