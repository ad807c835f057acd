/- same: two lists of labels. -/
import Derived.Test.YtgmemngfkajnbaaDoorSplit
namespace Go.Proofs.YtgmemngfkajnbaaDoor
open Go.RowKit

end Go.Proofs.YtgmemngfkajnbaaDoor
