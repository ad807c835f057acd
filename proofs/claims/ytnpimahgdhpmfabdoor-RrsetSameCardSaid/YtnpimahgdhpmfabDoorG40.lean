/- Texts of the proofs, merged. -/
import Derived.Test.YtnpimahgdhpmfabDoorG10
import Derived.Test.YtnpimahgdhpmfabDoorCards
import Derived.Test.YtnpimahgdhpmfabDoorTie
import Derived.LaidMore
import Derived.Stop.LaidErr
import Derived.LaidSub
/- What a card's row asks besides (seats without errors.errorString). -/
