/- Texts of the proofs, merged. -/
import Derived.Test.YtcillepoibpfiaaDoorG10
import Derived.Test.YtcillepoibpfiaaDoorCards
import Derived.Test.YtcillepoibpfiaaDoorTie
import Derived.LaidMore
import Derived.Stop.LaidErr
import Derived.LaidSub
/- What a card's row asks besides (seats without errors.errorString). -/
