/- Layer 24: the fixed calls. -/
import Derived.Test.YtcilehndnbnmkaaMixNew
import Derived.Test.YtcilehndnbnmkaaRSame
namespace Go.Proofs.Ytcilehndnbnmkaa
open Go.RowKit Go.Sort

set_option maxRecDepth 100000 in
set_option maxHeartbeats 2000000 in
theorem mixKnown_any (w : World) : Calls Try.prog 16 #[] w (Yes w) := by
  have CN := Lib.hid (fun w => mixNew_any 2 w (by decide))
  have CB := Lib.hid (fun w => mixNew_bad 9 w (by decide))
  have e1 : mixM (List.replicate 2 64) [20000, 40000] = 30000 := by decide
  have e2 : seenM (List.replicate 2 64) [20000, 40000] 1 = [63, 65] := by decide
  have H1 := Lib.hid e1
  have H2 := Lib.hid e2
  clear e1 e2
  go_enter Try.func16, Try.ntmps16
  go_wp2_with fail
  refine (CN.out _).mono ?_
  rintro e w1 ⟨F, rfl, hm, hF, hb⟩
  have hb2 : Below w1.heap.size w1 (w1.alloc (.cells #[.int .i64 20000, .int .i64 40000] 3)) := (Below.refl _ _).alloc (Nat.le_refl _) _
  have hrd : Rd (w1.alloc (.cells #[.int .i64 20000, .int .i64 40000] 3)) (w1.alloc (.cells #[.int .i64 20000, .int .i64 40000] 3)).heap.size (some ⟨w1.heap.size, 0, none⟩) (zvs [20000, 40000]) := Rd.new _ _ _
  have hm2 := hm.grow hb2
  have cp := mixP_any (m := 2) hm2 hrd rfl
  rw [H1.out] at cp
  have CP := Lib.hid cp
  have HM := Lib.hid (And.intro hm2 hrd)
  have HB := Lib.hid (hb.trans (hb2.mono hb.size))
  have hk2 : Blk (w1.alloc (.cells #[.int .i64 20000, .int .i64 40000] 3)) w1.heap.size 3 (zvs [20000, 40000]) := heap_alloc_new w1 _
  obtain ⟨w2, hw2⟩ : ∃ w2, w2 = w1.alloc (.cells #[.int .i64 20000, .int .i64 40000] 3) := ⟨_, rfl⟩
  obtain ⟨G, hG⟩ : ∃ G, G = w1.heap.size := ⟨_, rfl⟩
  have HF := Lib.hid (And.intro hF (show F < G by rw [hG]; exact hm.fb.lt))
  have HK := Lib.hid hk2
  rw [← hw2, ← hG] at HM HK
  rw [← hw2] at HB CP
  rw [← hG] at CP
  have HW := Lib.hid (And.intro hw2 hG)
  clear hm hF hb hb2 hrd hm2 cp hw2 hG hk2
  go_wp2_with fail
  rw [← HW.out.1, ← HW.out.2]
  refine CP.out.mono ?_
  rintro e w3 ⟨rfl, j, hwj⟩
  have e1 : w3.heap = w2.heap := by rw [hwj]; rfl
  have HM3 := Lib.hid (HM.out.1.same e1)
  have HK3 := Lib.hid (HK.out.same e1)
  have HB3 := Lib.hid (show Below w.heap.size w w3 by rw [hwj]; exact below_drewn HB.out)
  have CS := Lib.hid (mixSeen_any (m := 2) 1 HM3.out (rd_turns2 HK3.out (fun e => by have := HF.out.2; omega) rfl) rfl)
  rw [H2.out] at CS
  clear hwj e1 CP HM HK HB HW
  go_wp2_with fail
  refine CS.out.mono ?_
  rintro e w4 ⟨⟨u, rfl⟩, hm4, hu4⟩
  have CWT := Lib.hid (mixWeights_any hm4)
  have HB4 := Lib.hid (HB3.out.trans (hu4.below HF.out.1 HF.out.1 HB3.out.size))
  clear hm4 hu4 HM3 HK3 CS
  go_wp2_with fail
  refine CWT.out.mono ?_
  rintro e w5 ⟨v, rfl, hown, hb5⟩
  obtain ⟨A, c, rfl, -, -, -⟩ := own_form hown
  have hb6 : Below w5.heap.size w5 (w5.alloc (.cells #[.int .i64 63, .int .i64 65] 3)) := (Below.refl _ _).alloc (Nat.le_refl _) _
  have CSA := Lib.hid (rnSame_yes (w := w5.alloc (.cells #[.int .i64 63, .int .i64 65] 3)) (c := [63, 65]) (n := 2) (m := c) (m' := 2) (Rd.of_own (own_kept hown hb6)) (Rd.new _ _ _) rfl (by decide))
  have HB6 := Lib.hid ((HB4.out.trans (hb5.mono HB4.out.size)).trans (hb6.mono (Nat.le_trans HB4.out.size hb5.size)))
  clear hown hb5 hb6 CWT
  go_wp2_with fail
  refine CSA.out.mono ?_
  rintro e w6 ⟨rfl, hb⟩
  have HB7 := Lib.hid (HB6.out.trans (hb.mono HB6.out.size))
  clear hb
  go_wp2_with fail
  refine (CB.out _).mono ?_
  rintro e w' ⟨rfl, hw⟩
  obtain rfl : _ = w' := hw.symm
  go_wp2
  go_ret
  exact ⟨rfl, HB7.out⟩
end Go.Proofs.Ytcilehndnbnmkaa
