/- Fold's parts, and its closure. -/
import Derived.Test.YtapbcepjcnnkgabMem
import Derived.Test.YtapbcepjcnnkgabPure
namespace Go.Proofs.Ytapbcepjcnnkgab
open Go.RowKit

-- the closure of Fold: it appends one byte to the row that it is handed.
end Go.Proofs.Ytapbcepjcnnkgab
