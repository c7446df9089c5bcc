/- Layer 23: the fixed calls. -/
import Derived.Test.YtcilehndnbnmkaaCtxBank
namespace Go.Proofs.Ytcilehndnbnmkaa
open Go.RowKit Go.Sort

theorem ctxKnown_any (w : World) : Calls Try.prog 7 #[] w (Yes w) := by
  have CN := Lib.hid (fun w => ctxNew_any 4 16 w (by decide) (by decide))
  have CP := Lib.hid (fun w => ctxPlace_any 1 16 w (by decide))
  have e1 : placeC 1 16 = 40503 := by decide
  rw [e1] at CP
  have hs := seenC_same (RowC.even 16) (k := placeC 7 4) (by decide) 1
  have e2 : afterC ((List.replicate 16 32768).getD (placeC 7 4) 0) 1 = 34816 := by decide
  rw [e2] at hs
  have HS := Lib.hid hs
  clear hs e1 e2
  go_enter Try.func7, Try.ntmps7
  go_wp2_with fail
  refine (CN.out _).mono ?_
  rintro e w1 ⟨F, rfl, C, hf, ⟨hF, hC⟩, hb⟩
  have CS := Lib.hid (ctxSeen_any 7 1 hf)
  have HB := Lib.hid hb
  have HC := Lib.hid hC
  clear hf hb hC
  go_wp2_with fail
  refine CS.out.mono ?_
  rintro e w2 ⟨⟨u, rfl⟩, hf, hu⟩
  have cp := ctxP_any 7 hf
  rw [HS.out] at cp
  have CQ := Lib.hid cp
  have HB2 := Lib.hid (HB.out.trans (hu.below HC.out HC.out HB.out.size))
  clear hf hu cp
  go_wp2_with fail
  refine CQ.out.mono ?_
  rintro e w3 ⟨rfl, j, hw⟩
  have HB3 := Lib.hid (show Below w.heap.size w w3 by rw [hw]; exact below_drewn HB2.out)
  clear hw
  go_wp2_with fail
  refine (CP.out _).mono ?_
  rintro e w' ⟨rfl, hw⟩
  obtain rfl : _ = w' := hw.symm
  go_wp2
  go_ret
  exact ⟨rfl, HB3.out⟩
end Go.Proofs.Ytcilehndnbnmkaa
