/- slices.Clone and bytes.Clone of bytes. General: no code of the project. -/
import Derived.Test.YtnfkekaeppgaoaaDoorProg
import Derived.Test.YtnfkekaeppgaoaaDoorBase
import Derived.Deep.DeepMust
namespace Go.Proofs.YtnfkekaeppgaoaaDoor
open Go.RowKit

theorem info_u8' : (Tryd.prog.info? 5).map (fun i => (i.zero, i.size, i.bytes)) = some (some (.int .u8 0), 1, 1) := by kernel_rfl
/-- What hands back the bytes l in new memory. -/
def NewBy (w : World) (l : List UInt8) (e : Ending) (w' : World) : Prop :=
  ∃ v, e = .returned v ∧ w'.ownsRow w.heap.size 5 1 v l.length (bvs l) ∧ Below w.heap.size w w'

theorem run_eq_nil {P : Program} (w : World) (t e : TypeId) (a : Option Addr) (n c : Nat) (h : P.underlying t = some (.slice e)) :
    (binOp .eql t (.slice a n c) (.slice none 0 0)).run P w = .ok (.bool a.isNone) w := by
  simp only [binOp]
  simp [Op.equal, Op.maxDepth, Lib.run_equalIn_slice_nil w 9999 t e a n c 0 0 h]

end Go.Proofs.YtnfkekaeppgaoaaDoor
