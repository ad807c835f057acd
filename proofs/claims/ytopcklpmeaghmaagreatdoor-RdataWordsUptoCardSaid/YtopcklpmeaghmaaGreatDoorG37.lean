/- Texts of the proofs, merged. -/
import Derived.Test.YtopcklpmeaghmaaGreatDoorG36
import Derived.Deep.RegionWith
import Derived.Deep.CutRange
/- The document's answer on data: Put, type by type. -/
namespace Go.Proofs.YtopcklpmeaghmaaGreatDoor
open Go.RowKit

end Go.Proofs.YtopcklpmeaghmaaGreatDoor
