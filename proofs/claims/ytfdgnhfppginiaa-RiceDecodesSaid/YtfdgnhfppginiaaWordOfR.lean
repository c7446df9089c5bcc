/- Contract of layer 4's reference: Take, of any width. -/
import Derived.Test.YtfdgnhfppginiaaWordRTake
import Derived.Test.YtfdgnhfppginiaaWordOf
namespace Go.Proofs.Ytfdgnhfppginiaa
open Go.RowKit

theorem refTake_any {W : Nat} (hW : IsW W) (A : Option Addr) (c : Nat) (l : List UInt8) (w : World) (hr : Rd w w.heap.size A (bvs l)) (hnc : l.length ≤ c) (hb1 : l.length ≤ 100000) :
    Calls Try.prog 88 #[.slice A l.length c, .int .i64 (W : Int)] w (NewTake w (wordsOf W l) (restOf W l)) := by
  rcases hW with rfl | rfl | rfl | rfl
  · exact refTake_1 A l.length c _ l w hr rfl rfl hnc hb1
  · exact refTake_2 A l.length c _ l w hr rfl rfl hnc hb1
  · exact refTake_4 A l.length c _ l w hr rfl rfl hnc hb1
  · exact refTake_8 A l.length c _ l w hr rfl rfl hnc hb1
end Go.Proofs.Ytfdgnhfppginiaa
