/- Contracts of layer 12's reference: a plain row. -/
import Derived.Test.YtgbibmgedmbboaaFenFind
import Derived.Test.YtgbibmgedmbboaaFenHalve
namespace Go.Proofs.Ytgbibmgedmbboaa
open Go.RowKit

end Go.Proofs.Ytgbibmgedmbboaa
