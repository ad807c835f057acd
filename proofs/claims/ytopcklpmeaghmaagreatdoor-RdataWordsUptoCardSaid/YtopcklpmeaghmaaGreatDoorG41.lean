/- Texts of the proofs, merged. -/
import Derived.Test.YtopcklpmeaghmaaGreatDoorG40
import Derived.Deep.RegionWith
import Derived.Deep.CutRange
/- The document's answer on data: Show of SOA (what Text answers is handed in). -/
namespace Go.Proofs.YtopcklpmeaghmaaGreatDoor
open Go.RowKit

end Go.Proofs.YtopcklpmeaghmaaGreatDoor
