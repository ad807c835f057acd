/- Fold's parts, and its closure. -/
import Derived.Test.YtgmemngfkajnbaaDoorMem
import Derived.Test.YtgmemngfkajnbaaDoorPure
namespace Go.Proofs.YtgmemngfkajnbaaDoor
open Go.RowKit

-- the closure of Fold: it appends one byte to the row that it is handed.
end Go.Proofs.YtgmemngfkajnbaaDoor
