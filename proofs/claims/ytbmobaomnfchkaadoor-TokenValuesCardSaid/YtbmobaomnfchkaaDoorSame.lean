/- same: two lists of labels. -/
import Derived.Test.YtbmobaomnfchkaaDoorSplit
namespace Go.Proofs.YtbmobaomnfchkaaDoor
open Go.RowKit

end Go.Proofs.YtbmobaomnfchkaaDoor
