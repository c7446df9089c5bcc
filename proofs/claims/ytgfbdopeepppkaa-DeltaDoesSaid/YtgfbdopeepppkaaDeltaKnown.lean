/- The fixed calls of layer 5's laws. -/
import Derived.Test.YtgfbdopeepppkaaDeltaRef
import Derived.Test.YtgfbdopeepppkaaWordSame
namespace Go.Proofs.Ytgfbdopeepppkaa
open Go.RowKit

theorem dk_diff : ofW diffW 1 [5, 7, 6] = [5, 2, 255] := by decide
theorem dk_twice : ofW twiceW 2 [1, 0, 0] = [1, 2, 3] := by decide
set_option maxHeartbeats 1000000 in
set_option maxRecDepth 100000 in
theorem deltaKnown_any (w : World) : Calls Try.prog 9 #[] w (Yes w) := by
  have c1 := fun (A : Option Addr) (c : Nat) (w : World) (h : Rd w w.heap.size A (wvs [5, 7, 6])) => deltaDiff_any 1 A 3 c [5, 7, 6] w h rfl (by decide) (by decide)
  rw [dk_diff] at c1
  have c2 := fun (A : Option Addr) (c : Nat) (w : World) (h : Rd w w.heap.size A (wvs [1, 0, 0])) => deltaTwice_any 2 A 3 c [1, 0, 0] w h rfl (by decide) (by decide)
  rw [dk_twice] at c2
  have C1 := Lib.hid c1
  have C2 := Lib.hid c2
  clear c1 c2
  go_enter Try.func9, Try.ntmps9
  go_wp2_with fail
  refine (C1.out _ _ _ (Rd.new w (wvs [5, 7, 6]).toArray 28)).mono ?_
  rintro e w1 ⟨v1, rfl, hv1, hb⟩
  have hb1 := ((Below.refl w.heap.size w).alloc (Nat.le_refl _) (.cells (wvs [5, 7, 6]).toArray 28)).trans (hb.mono (by simp))
  have hv1' := hv1.grow ((Below.refl _ _).alloc (Nat.le_refl _) (.cells (wvs [5, 2, 255]).toArray 28))
  have hb1' := hb1.alloc hb1.size (.cells (wvs [5, 2, 255]).toArray 28)
  have H1 := Lib.hid (And.intro hv1' hb1')
  clear hb hb1 hv1 hv1' hb1'
  go_wp2_with fail
  refine (refSame_yes [5, 2, 255] (by decide) _ _ _ H1.out.1 (cells_new _ _ _)).mono ?_
  rintro e w2 ⟨rfl, hb⟩
  have hb2 := H1.out.2.trans (hb.mono H1.out.2.size)
  have hb2' := hb2.alloc hb2.size (.cells (wvs [1, 0, 0]).toArray 28)
  have H2 := Lib.hid hb2'
  clear hb hb2 hb2' H1
  go_wp2_with fail
  refine (C2.out _ _ _ (Rd.new w2 (wvs [1, 0, 0]).toArray 28)).mono ?_
  rintro e w3 ⟨v3, rfl, hv3, hb⟩
  have hb3 := H2.out.trans (hb.mono H2.out.size)
  have hv3' := hv3.grow ((Below.refl _ _).alloc (Nat.le_refl _) (.cells (wvs [1, 2, 3]).toArray 28))
  have hb3' := hb3.alloc hb3.size (.cells (wvs [1, 2, 3]).toArray 28)
  have H3 := Lib.hid (And.intro hv3' hb3')
  clear hb hb3 hv3 hv3' hb3' H2
  go_wp2_with fail
  refine (refSame_yes [1, 2, 3] (by decide) _ _ _ H3.out.1 (cells_new _ _ _)).mono ?_
  rintro e w4 ⟨rfl, hb⟩
  have hb4 := H3.out.2.trans (hb.mono H3.out.2.size)
  clear hb H3
  go_wp2
  go_ret
  exact ⟨rfl, hb4⟩
end Go.Proofs.Ytgfbdopeepppkaa
