/- A great zero value's cells, as a constant of their own: for a seat that has no such facts. -/
import Derived.Test.YtgmemngfkajnbaaDoorRows
import Derived.WalkKit
namespace Go.Proofs.YtgmemngfkajnbaaDoor
open Go Go.RowKit
end Go.Proofs.YtgmemngfkajnbaaDoor
