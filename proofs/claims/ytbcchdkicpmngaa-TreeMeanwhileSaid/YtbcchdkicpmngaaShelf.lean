/- Nothing of the shelf is wanted in this seat. -/
import Derived.Sort.AtCall
import Derived.Test.YtbcchdkicpmngaaLabels
namespace Go.Proofs
end Go.Proofs
