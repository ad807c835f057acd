/- wakes: a name that is known. -/
import Derived.Test.YtgmemngfkajnbaaDoorEscape
import Derived.Test.YtgmemngfkajnbaaDoorSame
import Derived.Test.YtgmemngfkajnbaaDoorFold
namespace Go.Proofs.YtgmemngfkajnbaaDoor
open Go.RowKit

end Go.Proofs.YtgmemngfkajnbaaDoor
