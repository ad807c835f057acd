/- Nothing of the shelf is wanted here. -/
import Derived.Sort.AtCall
import Derived.Test.YtpnfkgjcnofjnaaLabels
