/-
  DERIVED. GIVEN WITH THE SEED: THE CARDS: each row of YtpinhpnmnfcdoaaDoorRows.lean that lists a variable, with what it lists TIED to the program's text (the seventh form; the later family's looks); each row that meets fmt, with fmt's text TOLD by the authors' own Lean function (tested against real Go, not proved from fmt's source: count such statements apart). THE CARD IS WHAT COUNTS. Prove the row's statement (the work); the ties are given (YtpinhpnmnfcdoaaDoorTie.lean); close each card by the builder's one call (the guide's Derived/Test/ToyasCard.lean, 'card_holds'). Laid BY PROGRAM, IN A SANDBOX (cutbox-door.mjs). By AI agents, Wed Nov 11 2026. No macro, syntax, notation, axiom, sorry.
-/
import Derived.Test.YtpinhpnmnfcdoaaDoorRows
import GoSem.ClaimSeven
namespace Go.Proofs.YtpinhpnmnfcdoaaDoor
namespace Rows

/-- THE TIED CARD OF 'hearsaylaw04.RdataTypes'. -/
def rdataTypesCard : Claim7 := { stood := { row := rdataTypesRow, standIns := [], harness := (true, "c18ddef6cd7e9e83bb9a9d9e5d95d6e954508684ea419bdf416ebc56a6a45432"), looks := true }, kinds := [], alts := [], laidByText := true, laidKinds := [.data, .data, .data, .sentinel, .sentinel, .data], laidTests := true, laidLooks := .later }
def RdataTypesCardSaid : Prop := Claim7.holds Tryd.pinned (.plain (OpenSpec.ofChange rdataTypesSpec)) rdataTypesCard

/-- THE SECOND FORM's CARD OF 'hearsaylaw04.RdataTypes'. -/
def rdataTypesUptoCard : Claim7 := { stood := { row := rdataTypesUptoRow, standIns := [], harness := (true, "c18ddef6cd7e9e83bb9a9d9e5d95d6e954508684ea419bdf416ebc56a6a45432"), looks := true }, kinds := [], alts := [], laidByText := true, laidKinds := [.data, .data, .data, .sentinel, .sentinel, .data], laidTests := true, laidLooks := .later }
def RdataTypesUptoCardSaid : Prop := Claim7.holds Tryd.pinned (.plain (OpenSpec.upto rdataTypesSpec)) rdataTypesUptoCard
end Rows
end Go.Proofs.YtpinhpnmnfcdoaaDoor
