/- Fold's parts, and its closure. -/
import Derived.Test.YtnpimahgdhpmfaaMem
import Derived.Test.YtnpimahgdhpmfaaPure
namespace Go.Proofs.Ytnpimahgdhpmfaa
open Go.RowKit

-- the closure of Fold: it appends one byte to the row that it is handed.
end Go.Proofs.Ytnpimahgdhpmfaa
