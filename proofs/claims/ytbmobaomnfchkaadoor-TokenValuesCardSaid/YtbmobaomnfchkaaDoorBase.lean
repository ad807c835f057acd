/- Fold's parts, and its closure. -/
import Derived.Test.YtbmobaomnfchkaaDoorMem
import Derived.Test.YtbmobaomnfchkaaDoorPure
namespace Go.Proofs.YtbmobaomnfchkaaDoor
open Go.RowKit

-- the closure of Fold: it appends one byte to the row that it is handed.
end Go.Proofs.YtbmobaomnfchkaaDoor
