/- Texts of the proofs, merged. -/
import Derived.Test.YtapbcepjcnnkgaaDoorG10
import Derived.Test.YtapbcepjcnnkgaaDoorCards
import Derived.Test.YtapbcepjcnnkgaaDoorTie
import Derived.LaidMore
import Derived.Stop.LaidErr
import Derived.LaidSub
/- What a card's row asks besides (seats without errors.errorString). -/
