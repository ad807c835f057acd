/-
  DERIVED. GIVEN WITH THE SEED: THE CARDS: each row of YtcgdjomaddejmaaGreatDoorRows.lean that lists a variable, with what it lists TIED to the program's text (the seventh form; the later family's looks); each row that meets fmt, with fmt's text TOLD by the authors' own Lean function (tested against real Go, not proved from fmt's source: count such statements apart). THE CARD IS WHAT COUNTS. Prove the row's statement (the work); the ties are given (YtcgdjomaddejmaaGreatDoorTie.lean); close each card by the builder's one call (the guide's Derived/Test/ToyasCard.lean, 'card_holds'). Laid BY PROGRAM, IN A SANDBOX (cutbox-door.mjs). By AI agents, Wed Nov 11 2026. No macro, syntax, notation, axiom, sorry.
-/
import Derived.Test.YtcgdjomaddejmaaGreatDoorRows
import GoSem.ClaimSeven
namespace Go.Proofs.YtcgdjomaddejmaaGreatDoor
namespace Rows

/-- THE TIED CARD OF 'hearsaylaw05.RrsetSorts'. -/
def rrsetSortsCard : Claim7 := { stood := { row := rrsetSortsRow, standIns := [], harness := (true, "7c5b5162841ceea90e72ab8e14cec2fa78d6fb277eed31aeb168bf6036a4a813"), looks := false }, kinds := [], alts := [], laidByText := true, laidKinds := [.data], laidTests := true, laidLooks := .later }
def RrsetSortsCardSaid : Prop := Claim7.holds Tryz.pinned (.plain (OpenSpec.ofChange rrsetSortsSpec)) rrsetSortsCard

/-- THE SECOND FORM's CARD OF 'hearsaylaw05.RrsetSorts'. -/
def rrsetSortsUptoCard : Claim7 := { stood := { row := rrsetSortsUptoRow, standIns := [], harness := (true, "7c5b5162841ceea90e72ab8e14cec2fa78d6fb277eed31aeb168bf6036a4a813"), looks := false }, kinds := [], alts := [], laidByText := true, laidKinds := [.data], laidTests := true, laidLooks := .later }
def RrsetSortsUptoCardSaid : Prop := Claim7.holds Tryz.pinned (.plain (OpenSpec.upto rrsetSortsSpec)) rrsetSortsUptoCard
end Rows
end Go.Proofs.YtcgdjomaddejmaaGreatDoor
