/- Bytes: the document's answer. -/
import Derived.Test.YtgmemngfkajnbaaDoorTextRef
namespace Go.Proofs.YtgmemngfkajnbaaDoor
open Go.RowKit

theorem list_at (s : ByteArray) (k : Nat) (h : k < s.size) : s.data.toList.drop k = s[k] :: s.data.toList.drop (k + 1) := by
  rw [Nm.drop_cons (by simpa using h)]; rfl

end Go.Proofs.YtgmemngfkajnbaaDoor
