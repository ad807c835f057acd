/- The document's answers for numbers as bytes, and short texts. -/
import Derived.Test.YtfekmolgiohegaaOct
namespace Go.Proofs.Ytfekmolgiohegaa
open Go.RowKit

theorem ret3 {k : IntKind} {a b : Int} {x y : Value} (h : a = b) : Ending.returned (.tuple #[.int k a, x, y]) = .returned (.tuple #[.int k b, x, y]) := by rw [h]

end Go.Proofs.Ytfekmolgiohegaa
