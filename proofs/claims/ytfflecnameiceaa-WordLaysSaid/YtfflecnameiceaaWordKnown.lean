/- The fixed calls of layer 4's laws. -/
import Derived.Test.YtfflecnameiceaaWordTake
namespace Go.Proofs.Ytfflecnameiceaa
open Go.RowKit

def k123 : List UInt8 := [1, 2, 3]
theorem k_words : wordsN (3 / 2) 2 k123 = [513] := by decide
theorem k_rest : k123.drop (3 / 2 * 2) = [3] := by decide
theorem k_mask : (maskN 2 : Int) = 65535 := by decide

set_option maxHeartbeats 1000000 in
set_option maxRecDepth 100000 in
theorem wordKnown_any (w : World) : Calls Try.prog 20 #[] w (Yes w) := by
  have c1 := fun (A : Option Addr) (c : Nat) (w : World) (h : Rd w w.heap.size A (bvs k123)) (hc : 3 ≤ c) => wordTake_any 2 (.inr (.inl rfl)) A 3 c k123 w h rfl hc (by decide)
  rw [k_words, k_rest] at c1
  have c2 := wordMask_any 2
  rw [k_mask] at c2
  have c3 := wordRight_any 8 true rfl
  have c4 := wordRight_any 3 false rfl
  have C1 := Lib.hid c1
  have C2 := Lib.hid c2
  have C3 := Lib.hid c3
  have C4 := Lib.hid c4
  clear c1 c2 c3 c4
  go_enter Try.func20, Try.ntmps20
  go_wp2_with fail
  refine (C1.out _ _ _ (Rd.new w (bvs k123).toArray 5) (by decide)).mono ?_
  rintro e w1 ⟨v1, v2, rfl, ⟨A1, c1, rfl, hc1, h1⟩, ⟨A2, c2, rfl, hc2, h2⟩, hb⟩
  have hbb := ((Below.refl w.heap.size w).alloc (Nat.le_refl _) (.cells (bvs k123).toArray 5)).trans (hb.mono (by simp))
  obtain ⟨ab, ao, rfl, _, hcell⟩ := h1 0 _ (wvs_get [513] 0 (by decide))
  have hst := run_str (P := Try.prog) w1 23 9 5 Try.underlying23 Try.underlying5 Try.underlying9 w1.heap.size A2 [3] c2 h2 [(3 : UInt8)].length rfl
  have hl1 : (wvs [513]).length = 1 := rfl
  have hl2 : [(3 : UInt8)].length = 1 := rfl
  rw [hl2] at hst
  rw [hl1, hl2]
  have hcell' : w1.cell? ⟨ab, ao, none⟩ = some (.int .u64 513) := hcell
  clear hb h1 h2 hc1 hc2 hl1 hl2 hcell
  go_wp2_with fail
  refine (C2.out _).mono ?_
  rintro e w' ⟨rfl, rfl⟩
  go_wp2_with fail
  refine (C3.out _).mono ?_
  rintro e w' ⟨rfl, rfl⟩
  go_wp2_with fail
  refine (C4.out _).mono ?_
  rintro e w' ⟨rfl, rfl⟩
  go_wp2
  go_ret
  exact ⟨rfl, hbb⟩
end Go.Proofs.Ytfflecnameiceaa
