/- Fold's parts, and its closure. -/
import Derived.Test.YtgmemngfkajnbaaMem
import Derived.Test.YtgmemngfkajnbaaPure
namespace Go.Proofs.Ytgmemngfkajnbaa
open Go.RowKit

-- the closure of Fold: it appends one byte to the row that it is handed.
end Go.Proofs.Ytgmemngfkajnbaa
