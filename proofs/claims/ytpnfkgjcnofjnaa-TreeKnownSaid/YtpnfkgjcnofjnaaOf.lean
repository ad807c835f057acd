/- Of, and the labels of a name put into a row. -/
import Derived.Test.YtpnfkgjcnofjnaaRow
namespace Go.Proofs.Ytpnfkgjcnofjnaa
open Go.RowKit Go.Lib

/-- the first label that may not be. -/
def badL (l : List UInt8) : Bool := !Nm.good l
def ofR (ls : List (List UInt8)) : Value := if ls.any badL then .tuple #[.string ⟨#[]⟩, .int .i64 10] else nameR ls

end Go.Proofs.Ytpnfkgjcnofjnaa
