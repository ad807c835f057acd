/- A great zero value's facts are the seat's own. -/
import Derived.Test.YtpnfkgjcnofjnaaRows
namespace Go.Proofs.Ytpnfkgjcnofjnaa
end Go.Proofs.Ytpnfkgjcnofjnaa
