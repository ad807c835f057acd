/- digit, marked, Bytes, Escape: the document's answers on texts. -/
import Derived.Test.YtgmemngfkajnbaaDoorEscape
namespace Go.Proofs.YtgmemngfkajnbaaDoor
open Go.RowKit

end Go.Proofs.YtgmemngfkajnbaaDoor
