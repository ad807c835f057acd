/- A great zero value's facts are the seat's own. -/
import Derived.Test.YtbcchdkicpmngaaRows
namespace Go.Proofs.Ytbcchdkicpmngaa
end Go.Proofs.Ytbcchdkicpmngaa
