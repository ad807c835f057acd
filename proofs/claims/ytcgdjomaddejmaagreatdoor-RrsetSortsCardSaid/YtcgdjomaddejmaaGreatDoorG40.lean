/- Texts of the proofs, merged. -/
import Derived.Test.YtcgdjomaddejmaaGreatDoorG10
import Derived.Test.YtcgdjomaddejmaaGreatDoorCards
import Derived.Test.YtcgdjomaddejmaaGreatDoorTie
import Derived.LaidMore
import Derived.Stop.LaidErr
import Derived.LaidSub
/- What a card's row asks besides (seats without errors.errorString). -/
