/- A great zero value's facts are the seat's own. -/
import Derived.Test.YtnhoaceickojeaaRows
namespace Go.Proofs.Ytnhoaceickojeaa
end Go.Proofs.Ytnhoaceickojeaa
