/- Window at the fixed call of layer 7's laws: the library's own functions at fixed words. -/
import Derived.Test.YtckihmhjpjcapaaDoorWordFn
import Derived.Deep.DeepMust
import Derived.RangeFuncBox
namespace Go.Proofs.YtckihmhjpjcapaaDoor
open Go.RowKit

/-- The one cell of the library's table that the fixed call reads. -/
def Tab (w : World) : Prop := w.cell? ⟨0, 7, none⟩ = some (.int .u8 3)
theorem Tab.grow {w w' : World} (h : Tab w) (hb : Below w.heap.size w w') : Tab w' := by
  obtain ⟨o, ho, _⟩ := cells_of_cell h
  exact (hb.cell (p := ⟨0, 7, none⟩) (Array.getElem?_eq_some_iff.1 ho).1).trans h

set_option maxRecDepth 100000 in
theorem len_40 (w : World) : Calls Tryd.prog 21 #[.int .u64 40] w fun e w' => e = .returned (.int .i64 6) ∧ w' = w := by
  go_enter Tryd.func21, Tryd.ntmps21
  go_wp2
  go_ret
  exact ⟨by kernel_rfl, rfl⟩
set_option maxRecDepth 100000 in
theorem len_255 (w : World) : Calls Tryd.prog 21 #[.int .u64 255] w fun e w' => e = .returned (.int .i64 8) ∧ w' = w := by
  go_enter Tryd.func21, Tryd.ntmps21
  go_wp2
  go_ret
  exact ⟨by kernel_rfl, rfl⟩
theorem lead_40 (w : World) : Calls Tryd.prog 18 #[.int .u64 40] w fun e w' => e = .returned (.int .i64 58) ∧ w' = w := by
  go_enter Tryd.func18, Tryd.ntmps18
  go_wp2_with (go_at_call 21; go_must (refine (len_40 _).mono ?_; rintro e w' ⟨rfl, rfl⟩))
  go_ret
  exact ⟨rfl, rfl⟩
theorem lead_255 (w : World) : Calls Tryd.prog 18 #[.int .u64 255] w fun e w' => e = .returned (.int .i64 56) ∧ w' = w := by
  go_enter Tryd.func18, Tryd.ntmps18
  go_wp2_with (go_at_call 21; go_must (refine (len_255 _).mono ?_; rintro e w' ⟨rfl, rfl⟩))
  go_ret
  exact ⟨rfl, rfl⟩
theorem tail_40 (w : World) (ht : Tab w) : Calls Tryd.prog 19 #[.int .u64 40] w fun e w' => e = .returned (.int .i64 3) ∧ w' = w := by
  unfold Tab at ht
  have h1 : bits .and .u64 40 (IntKind.u64.wrap (-40)) = 8 := by decide
  have h2 : IntKind.u64.wrap (8 * 285870213051353865) = 2286961704410830920 := by decide
  have h3 : (2286961704410830920 : Int) / 288230376151711744 = 7 := by decide
  go_enter Tryd.func19, Tryd.ntmps19
  go_wp2
  go_ret
  exact ⟨rfl, rfl⟩
theorem window_40 (w : World) (ht : Tab w) : Calls Tryd.prog 12 #[.int .u64 40, .int .i64 1] w fun e w' => e = .returned (.tuple #[.int .i64 2, .int .i64 3]) ∧ w' = w := by
  have c2 := wordMask_any 1
  have hm : ((maskN 1 : Nat) : Int) = 255 := by decide
  rw [hm] at c2
  have h1 : bits .and .u64 40 255 = 40 := by decide
  have C2 := Lib.hid c2
  have HT := Lib.hid ht
  clear c2 hm ht
  go_enter Tryd.func12, Tryd.ntmps12
  go_wp2_with fail
  refine (C2.out _).mono ?_
  rintro e w' ⟨rfl, rfl⟩
  go_wp2_with fail
  refine (lead_40 _).mono ?_
  rintro e w' ⟨rfl, rfl⟩
  go_wp2_with fail
  refine (lead_255 _).mono ?_
  rintro e w' ⟨rfl, rfl⟩
  go_wp2_with fail
  refine (tail_40 _ HT.out).mono ?_
  rintro e w' ⟨rfl, rfl⟩
  go_wp2
  go_ret2
  exact ⟨rfl, rfl⟩
end Go.Proofs.YtckihmhjpjcapaaDoor
