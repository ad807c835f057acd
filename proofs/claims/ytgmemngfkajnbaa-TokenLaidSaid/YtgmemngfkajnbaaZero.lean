/- A great zero value's cells, as a constant of their own: for a seat that has no such facts. -/
import Derived.Test.YtgmemngfkajnbaaRows
import Derived.WalkKit
namespace Go.Proofs.Ytgmemngfkajnbaa
open Go Go.RowKit
end Go.Proofs.Ytgmemngfkajnbaa
