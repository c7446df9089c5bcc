/- The walk of BitNil. -/
import Derived.Test.YtgchomeipmjifaaBitKnown
namespace Go.Proofs.Ytgchomeipmjifaa
open Go.RowKit

set_option maxHeartbeats 2000000 in
set_option maxRecDepth 100000 in
theorem bitNil_any (v n : Int) (w : World) : Calls Try.prog 6 #[.int .u64 v, .int .i64 n] w (YesB w) := by
  go_enter Try.func6, Try.ntmps6
  go_wp2_with (first
    | (go_at_call 12; go_must (refine (wPut_nil _ _ _).mono ?_; rintro e w' ⟨rfl, rfl⟩))
    | (go_at_call 14; go_must (refine (wOnes_nil _ _ _).mono ?_; rintro e w' ⟨rfl, rfl⟩))
    | (go_at_call 16; go_must (refine (wLen_nil _).mono ?_; rintro e w' ⟨rfl, rfl⟩))
    | (go_at_call 18; go_must (refine (wBytes_nil _).mono ?_; rintro e w' ⟨rfl, rfl⟩))
    | (go_at_call 22; go_must (refine (rGet_nil _ _).mono ?_; rintro e w' ⟨rfl, rfl⟩))
    | (go_at_call 24; go_must (refine (rOnes_nil _ _).mono ?_; rintro e w' ⟨rfl, rfl⟩))
    | (go_at_call 26; go_must (refine (rErr_nil _).mono ?_; rintro e w' ⟨rfl, rfl⟩))
    | (go_at_call 27; go_must (refine (rLeft_nil _).mono ?_; rintro e w' ⟨rfl, rfl⟩))
    | (go_at_call 29; go_must (refine (rDone_nil _).mono ?_; rintro e w' ⟨rfl, rfl⟩))
    | (go_at_call 11; go_must (refine (bitKnown_any _).mono ?_; rintro e w' ⟨rfl, hb⟩)))
  go_ret
  exact ⟨rfl, hb⟩
end Go.Proofs.Ytgchomeipmjifaa
