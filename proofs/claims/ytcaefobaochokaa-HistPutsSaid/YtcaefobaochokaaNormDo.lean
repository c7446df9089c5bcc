/- Contracts of layer 14: Norm. -/
import Derived.Test.YtcaefobaochokaaNormParts
namespace Go.Proofs.Ytcaefobaochokaa
open Go.RowKit Go.Sort Go.Shelf

section
variable {w : World} {B : Nat} {A : Option Addr} {n m : Nat} {c : List Int}
/-- May counts not be? -/
def NArg (c : List Int) (bits : Int) : Prop := bits < 1 ∨ 16 < bits ∨ c.any nBad = true
/-- What Norm tells of none. -/
def NoShares (err : Int) : Ending := .returned (.tuple #[.slice none 0 0, .int .i64 err])
end
end Go.Proofs.Ytcaefobaochokaa
