/- Texts of the proofs, merged. -/
import Derived.Test.YtopcklpmeaghmaaGreatDoorG5
import Derived.Deep.CutRange
/- The document's answer on data: Check. -/
namespace Go.Proofs.YtopcklpmeaghmaaGreatDoor
open Go.RowKit

end Go.Proofs.YtopcklpmeaghmaaGreatDoor
