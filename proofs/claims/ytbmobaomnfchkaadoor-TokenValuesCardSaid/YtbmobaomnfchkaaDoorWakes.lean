/- wakes: a name that is known. -/
import Derived.Test.YtbmobaomnfchkaaDoorEscape
import Derived.Test.YtbmobaomnfchkaaDoorSame
import Derived.Test.YtbmobaomnfchkaaDoorFold
namespace Go.Proofs.YtbmobaomnfchkaaDoor
open Go.RowKit

end Go.Proofs.YtbmobaomnfchkaaDoor
