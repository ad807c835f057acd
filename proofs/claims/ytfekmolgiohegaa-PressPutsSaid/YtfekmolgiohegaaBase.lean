/- Fold's parts, and its closure. -/
import Derived.Test.YtfekmolgiohegaaMem
import Derived.Test.YtfekmolgiohegaaPure
namespace Go.Proofs.Ytfekmolgiohegaa
open Go.RowKit

-- the closure of Fold: it appends one byte to the row that it is handed.
end Go.Proofs.Ytfekmolgiohegaa
