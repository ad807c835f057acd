/- Fold and the document's own answer to it: each byte in small letters. -/
import Derived.Test.YtgmemngfkajnbaaDoorBase
namespace Go.Proofs.YtgmemngfkajnbaaDoor
open Go.RowKit

-- the document's answer: []byte(s), each letter turned in place, and back.
def lowAt (l : List UInt8) (k j : Nat) : UInt8 := if j < k then Nm.small (l.getD j 0) else l.getD j 0
theorem lowAt_lt {l : List UInt8} {k j : Nat} (h : j < k) : lowAt l k j = Nm.small (l.getD j 0) := if_pos h
theorem lowAt_ge {l : List UInt8} {k j : Nat} (h : k ≤ j) : lowAt l k j = l.getD j 0 := if_neg (by omega)

end Go.Proofs.YtgmemngfkajnbaaDoor
