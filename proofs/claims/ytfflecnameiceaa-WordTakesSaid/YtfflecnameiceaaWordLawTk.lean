/- Law WordTakes. -/
import Derived.Test.YtfflecnameiceaaWordRTake
import Derived.Test.YtfflecnameiceaaWordSame
import Derived.Test.YtfflecnameiceaaWordKnown
namespace Go.Proofs.Ytfflecnameiceaa
open Go.RowKit

/-- Whatever the width: both Takes hand back the same words, and the same rest. -/
theorem takes_alike (W : Int) (A : Option Addr) (n c : Nat) (l : List UInt8) (hn : l.length = n) (hnc : n ≤ c) (hb1 : n ≤ 100000) :
    ∃ (ws : List Nat) (rest : List UInt8), ws.length ≤ n ∧ (∀ w : World, Rd w w.heap.size A (bvs l) → Calls Try.prog 21 #[.slice A n c, .int .i64 W] w (NewTake w ws rest)) ∧
      (∀ w : World, Rd w w.heap.size A (bvs l) → Calls Try.prog 22 #[.slice A n c, .int .i64 W] w (NewTake w ws rest)) := by
  cases hr : rightB W with
  | false => exact ⟨[], [], Nat.zero_le _, fun w _ => wordTake_wrong A n c W w hr, fun w _ => refTake_wrong A n c W w hr⟩
  | true =>
    obtain ⟨V, rfl, hV⟩ := isW_of hr
    refine ⟨wordsN (n / V) V l, l.drop (n / V * V), by rw [wordsN_len]; exact Nat.div_le_self _ _, fun w h => wordTake_any V hV A n c l w h hn hnc hb1, fun w h => ?_⟩
    rcases hV with rfl | rfl | rfl | rfl
    · exact refTake_1 A n c (n / 1) l w h hn rfl hnc hb1
    · exact refTake_2 A n c (n / 2) l w h hn rfl hnc hb1
    · exact refTake_4 A n c (n / 4) l w h hn rfl hnc hb1
    · exact refTake_8 A n c (n / 8) l w h hn rfl hnc hb1

set_option maxHeartbeats 1000000 in
set_option maxRecDepth 100000 in
theorem wordTakes_law (A : Option Addr) (n c : Nat) (W : Int) (l : List UInt8) (w : World) (hr : Rd w w.heap.size A (bvs l)) (hn : l.length = n) (hnc : n ≤ c) (hW1 : W ≤ 9223372036854775807) :
    Calls Try.prog 7 #[.slice A n c, .int .i64 W] w (Yes w) := by
  by_cases h6 : (600 : Int) < (n : Int)
  · go_enter Try.func7, Try.ntmps7
    go_wp2_with (go_at_call 20; go_must (refine (wordKnown_any _).mono ?_; rintro e w' ⟨rfl, hb⟩))
    go_ret
    exact ⟨rfl, hb⟩
  · obtain ⟨ws, rest, hwl, c1, c2⟩ := takes_alike W A n c l hn hnc (by omega)
    have c3 := wordRight_any W (rightB W) rfl
    have c4 := refRight_any W (rightB W) rfl
    have c5 := wordMask_any W
    have c6 := fun w => refMask_any W w hW1
    obtain ⟨b, hb⟩ : ∃ b, b = rightB W := ⟨_, rfl⟩
    rw [← hb] at c3 c4
    obtain ⟨M, hM⟩ : ∃ M, M = maskN W := ⟨_, rfl⟩
    rw [← hM] at c5 c6
    have C1 := Lib.hid c1
    have C2 := Lib.hid c2
    have C3 := Lib.hid c3
    have C4 := Lib.hid c4
    have C5 := Lib.hid c5
    have C6 := Lib.hid c6
    clear c1 c2 c3 c4 c5 c6 hb hM hn
    go_enter Try.func7, Try.ntmps7
    go_wp2_with fail
    refine (C1.out _ hr).mono ?_
    rintro e w1 ⟨v1, v2, rfl, hv1, hv2, hb1⟩
    have HR1 := Lib.hid ((hr.below hb1).more hb1.size)
    have HV1 := Lib.hid hv1
    have HV2 := Lib.hid hv2
    clear hr hv1 hv2
    go_wp2_with fail
    refine (C2.out _ HR1.out).mono ?_
    rintro e w2 ⟨v3, v4, rfl, hv3, hv4, hb2⟩
    obtain ⟨A1, c1, rfl, _, hr1⟩ := HV1.out.grow hb2
    obtain ⟨A2, c2, rfl, _, hr2⟩ := HV2.out.grow hb2
    obtain ⟨A3, c3, rfl, _, hr3⟩ := hv3
    obtain ⟨A4, c4, rfl, _, hr4⟩ := hv4
    have hbb := hb1.trans (hb2.mono hb1.size)
    rw [wvs_length]
    have HRR2 := Lib.hid hr2
    have HRR4 := Lib.hid hr4
    have c7 := refSame_any A1 ws.length c1 A3 c3 ws w2 hr1 hr3 rfl (by omega)
    have C7 := Lib.hid c7
    have HBB := Lib.hid hbb
    clear hb1 hb2 hr1 hr2 hr3 hr4 c7 hbb
    go_wp2_with fail
    refine C7.out.mono ?_
    rintro e w3 ⟨rfl, hb3⟩
    have hst1 := run_str (P := Try.prog) w3 23 9 5 Try.underlying23 Try.underlying5 Try.underlying9 w2.heap.size A2 rest c2 (HRR2.out.below hb3) rest.length rfl
    have hst2 := run_str (P := Try.prog) w3 23 9 5 Try.underlying23 Try.underlying5 Try.underlying9 w2.heap.size A4 rest c4 (HRR4.out.below hb3) rest.length rfl
    have hbb := HBB.out.trans (hb3.mono HBB.out.size)
    have HBB3 := Lib.hid hbb
    clear hb3 hbb
    go_wp2_with fail
    refine (C3.out _).mono ?_
    rintro e w' ⟨rfl, rfl⟩
    go_wp2_with fail
    refine (C4.out _).mono ?_
    rintro e w' ⟨rfl, rfl⟩
    go_wp2_with fail
    refine (C5.out _).mono ?_
    rintro e w' ⟨rfl, rfl⟩
    go_wp2_with fail
    refine (C6.out _).mono ?_
    rintro e w' ⟨rfl, rfl⟩
    go_wp2_with fail
    refine (wordKnown_any _).mono ?_
    rintro e w5 ⟨rfl, hb5⟩
    have hbb := HBB3.out.trans (hb5.mono HBB3.out.size)
    clear hb5 hst1 hst2
    go_wp2
    go_ret
    exact ⟨rfl, hbb⟩
end Go.Proofs.Ytfflecnameiceaa
