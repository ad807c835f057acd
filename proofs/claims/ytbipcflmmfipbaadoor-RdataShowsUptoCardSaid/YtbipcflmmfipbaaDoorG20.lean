/- Texts of the proofs, merged. -/
import Derived.Test.YtbipcflmmfipbaaDoorG19
import Derived.Deep.RegionWith
import Derived.Deep.CutRange
/- The document's answer on data: Put, type by type. -/
namespace Go.Proofs.YtbipcflmmfipbaaDoor
open Go.RowKit

end Go.Proofs.YtbipcflmmfipbaaDoor
