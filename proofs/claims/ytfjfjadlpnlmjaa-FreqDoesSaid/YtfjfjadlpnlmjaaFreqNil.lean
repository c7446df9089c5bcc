/- Layer 13: the fixed calls; the law FreqNil. -/
import Derived.Test.YtfjfjadlpnlmjaaFreqNew
namespace Go.Proofs.Ytfjfjadlpnlmjaa
open Go.RowKit Go.Sort

theorem fknown_new (w : World) : Calls Try.prog 22 #[.int .i64 2, .int .i64 3, .int .i64 4] w fun e w' => ∃ F, e = .returned (.pointer (some ⟨F, 0, none⟩)) ∧ ∃ T S, IsFreq w' F T S [1, 1] 3 4 ∧ (w.heap.size ≤ F ∧ w.heap.size ≤ T ∧ w.heap.size ≤ S) ∧ Below w.heap.size w w' :=
  freqNew_any 2 3 4 w (by unfold MayF; decide)
theorem fknown_shrunk {r : List Int} (h : Shrunk 4 [1, 4] r) : r = [1, 2] :=
  h.one (.more [1, 4] [1, 2] (by decide) (.stop [1, 2] (by decide)))
section
variable {w : World} {F T S : Nat}
theorem fknown_seen (h : IsFreq w F T S [1, 1] 3 4) : Calls Try.prog 26 #[.pointer (some ⟨F, 0, none⟩), .int .i64 1] w fun e w' => e = .returned (.int .i64 0) ∧ IsFreq w' F T S [1, 2] 3 4 ∧ TurnsB T S w w' := by
  have := freqSeen_any 1 h ⟨rfl, by decide⟩ (by decide) (by decide) (by decide) (by decide)
  refine this.mono fun e w' hh => ⟨hh.1, ?_, hh.2.2⟩
  obtain ⟨r, hr, hf⟩ := hh.2.1
  rw [fknown_shrunk hr] at hf
  exact hf
theorem fknown_of (h : IsFreq w F T S [1, 2] 3 4) : Calls Try.prog 29 #[.pointer (some ⟨F, 0, none⟩), .int .i64 1] w fun e w' => e = .returned (.tuple #[.int .i64 1, .int .i64 2]) ∧ Below w.heap.size w w' :=
  freqOf_at 1 h (by decide)
theorem fknown_find (h : IsFreq w F T S [1, 2] 3 4) : Calls Try.prog 30 #[.pointer (some ⟨F, 0, none⟩), .int .i64 2] w fun e w' => e = .returned (.tuple #[.int .i64 1, .bool true]) ∧ w' = w :=
  freqFind_any 2 h
theorem fknown_total (h : IsFreq w F T S [1, 2] 3 4) : Calls Try.prog 27 #[.pointer (some ⟨F, 0, none⟩)] w fun e w' => e = .returned (.int .i64 3) ∧ w' = w := freqTotal_any h
end
set_option maxHeartbeats 2000000 in
theorem freqKnown_any (w : World) : Calls Try.prog 21 #[] w (Yes w) := by
  go_enter Try.func21, Try.ntmps21
  go_wp2_with fail
  refine (fknown_new _).mono ?_
  rintro e w1 ⟨F, rfl, T, S, hf1, ⟨-, hT, hS⟩, hb1⟩
  have HF1 := Lib.hid hf1
  have HB1 := Lib.hid hb1
  have HTS := Lib.hid (And.intro hT hS)
  clear hf1 hb1 hT hS
  go_wp2_with fail
  refine (fknown_seen HF1.out).mono ?_
  rintro e w2 ⟨rfl, hf2, hu2⟩
  have HF2 := Lib.hid hf2
  have HB2 := Lib.hid (HB1.out.trans (hu2.below HTS.out.1 HTS.out.2 HB1.out.size))
  clear hf2 hu2
  go_wp2_with fail
  refine (fknown_of HF2.out).mono ?_
  rintro e w3 ⟨rfl, hb3⟩
  have HF3 := Lib.hid (HF2.out.grow hb3)
  have HB3 := Lib.hid (HB2.out.trans (hb3.mono HB2.out.size))
  clear hb3
  go_wp2_with fail
  refine (fknown_find HF3.out).mono ?_
  rintro e w' ⟨rfl, hw⟩
  obtain rfl : _ = w' := hw.symm
  go_wp2_with fail
  refine (fknown_total HF3.out).mono ?_
  rintro e w' ⟨rfl, hw⟩
  obtain rfl : _ = w' := hw.symm
  go_wp2
  go_ret
  exact ⟨rfl, HB3.out⟩
set_option maxHeartbeats 2000000 in
theorem freqNil_law (i : Int) (w : World) : Calls Try.prog 8 #[.int .i64 i] w (Yes w) := by
  have C1 := Lib.hid (freqOf_nil i)
  have C2 := Lib.hid (freqFind_nil i)
  have C3 := Lib.hid freqTotal_nil
  have C4 := Lib.hid (freqSeen_nil i)
  have C5 := Lib.hid freqKnown_any
  go_enter Try.func8, Try.ntmps8
  go_wp2_with fail
  refine (C1.out _).mono ?_
  rintro e w' ⟨rfl, hw⟩
  obtain rfl : _ = w' := hw.symm
  go_wp2_with fail
  refine (C2.out _).mono ?_
  rintro e w' ⟨rfl, hw⟩
  obtain rfl : _ = w' := hw.symm
  go_wp2_with fail
  refine (C3.out _).mono ?_
  rintro e w' ⟨rfl, hw⟩
  obtain rfl : _ = w' := hw.symm
  go_wp2_with fail
  refine (C4.out _).mono ?_
  rintro e w' ⟨rfl, hw⟩
  obtain rfl : _ = w' := hw.symm
  go_wp2_with fail
  refine (C5.out _).mono ?_
  rintro e w' ⟨rfl, hb⟩
  go_wp2
  go_ret
  exact ⟨rfl, hb⟩
end Go.Proofs.Ytfjfjadlpnlmjaa
