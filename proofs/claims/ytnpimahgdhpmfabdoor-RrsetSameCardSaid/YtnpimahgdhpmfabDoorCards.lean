/-
  DERIVED. GIVEN WITH THE SEED: THE CARDS: each row of YtnpimahgdhpmfabDoorRows.lean that lists a variable, with what it lists TIED to the program's text (the seventh form; the later family's looks); each row that meets fmt, with fmt's text TOLD by the authors' own Lean function (tested against real Go, not proved from fmt's source: count such statements apart). THE CARD IS WHAT COUNTS. Prove the row's statement (the work); the ties are given (YtnpimahgdhpmfabDoorTie.lean); close each card by the builder's one call (the guide's Derived/Test/ToyasCard.lean, 'card_holds'). Laid BY PROGRAM, IN A SANDBOX (cutbox-door.mjs). By AI agents, Wed Nov 11 2026. No macro, syntax, notation, axiom, sorry.
-/
import Derived.Test.YtnpimahgdhpmfabDoorRows
import GoSem.ClaimSeven
namespace Go.Proofs.YtnpimahgdhpmfabDoor
namespace Rows

/-- THE TIED CARD OF 'hearsaylaw05.RrsetCmps'. -/
def rrsetCmpsCard : Claim7 := { stood := { row := rrsetCmpsRow, standIns := [], harness := (true, "374e8dd3ed1011cc1fbed46e0a93e779bec9b7dfedf26095d9e9431458768076"), looks := false }, kinds := [], alts := [], laidByText := true, laidKinds := [.data], laidTests := true, laidLooks := .later }
def RrsetCmpsCardSaid : Prop := Claim7.holds Tryd.pinned (.plain (OpenSpec.ofChange rrsetCmpsSpec)) rrsetCmpsCard

/-- THE TIED CARD OF 'hearsaylaw05.RrsetSets'. -/
def rrsetSetsCard : Claim7 := { stood := { row := rrsetSetsRow, standIns := [], harness := (true, "374e8dd3ed1011cc1fbed46e0a93e779bec9b7dfedf26095d9e9431458768076"), looks := false }, kinds := [], alts := [], laidByText := true, laidKinds := [.data], laidTests := true, laidLooks := .later }
def RrsetSetsCardSaid : Prop := Claim7.holds Tryd.pinned (.plain (OpenSpec.ofChange rrsetSetsSpec)) rrsetSetsCard

/-- THE TIED CARD OF 'hearsaylaw05.RrsetSame'. -/
def rrsetSameCard : Claim7 := { stood := { row := rrsetSameRow, standIns := [], harness := (true, "374e8dd3ed1011cc1fbed46e0a93e779bec9b7dfedf26095d9e9431458768076"), looks := false }, kinds := [], alts := [], laidByText := true, laidKinds := [.data], laidTests := true, laidLooks := .later }
def RrsetSameCardSaid : Prop := Claim7.holds Tryd.pinned (.plain (OpenSpec.ofChange rrsetSameSpec)) rrsetSameCard

/-- THE TIED CARD OF 'hearsaylaw05.RrsetSet'. -/
def rrsetSetCard : Claim7 := { stood := { row := rrsetSetRow, standIns := [], harness := (true, "374e8dd3ed1011cc1fbed46e0a93e779bec9b7dfedf26095d9e9431458768076"), looks := false }, kinds := [], alts := [], laidByText := true, laidKinds := [.data], laidTests := true, laidLooks := .later }
def RrsetSetCardSaid : Prop := Claim7.holds Tryd.pinned (.plain (OpenSpec.ofChange rrsetSetSpec)) rrsetSetCard

/-- THE SECOND FORM's CARD OF 'hearsaylaw05.RrsetCmps'. -/
def rrsetCmpsUptoCard : Claim7 := { stood := { row := rrsetCmpsUptoRow, standIns := [], harness := (true, "374e8dd3ed1011cc1fbed46e0a93e779bec9b7dfedf26095d9e9431458768076"), looks := false }, kinds := [], alts := [], laidByText := true, laidKinds := [.data], laidTests := true, laidLooks := .later }
def RrsetCmpsUptoCardSaid : Prop := Claim7.holds Tryd.pinned (.plain (OpenSpec.upto rrsetCmpsSpec)) rrsetCmpsUptoCard

/-- THE SECOND FORM's CARD OF 'hearsaylaw05.RrsetSets'. -/
def rrsetSetsUptoCard : Claim7 := { stood := { row := rrsetSetsUptoRow, standIns := [], harness := (true, "374e8dd3ed1011cc1fbed46e0a93e779bec9b7dfedf26095d9e9431458768076"), looks := false }, kinds := [], alts := [], laidByText := true, laidKinds := [.data], laidTests := true, laidLooks := .later }
def RrsetSetsUptoCardSaid : Prop := Claim7.holds Tryd.pinned (.plain (OpenSpec.upto rrsetSetsSpec)) rrsetSetsUptoCard

/-- THE SECOND FORM's CARD OF 'hearsaylaw05.RrsetSame'. -/
def rrsetSameUptoCard : Claim7 := { stood := { row := rrsetSameUptoRow, standIns := [], harness := (true, "374e8dd3ed1011cc1fbed46e0a93e779bec9b7dfedf26095d9e9431458768076"), looks := false }, kinds := [], alts := [], laidByText := true, laidKinds := [.data], laidTests := true, laidLooks := .later }
def RrsetSameUptoCardSaid : Prop := Claim7.holds Tryd.pinned (.plain (OpenSpec.upto rrsetSameSpec)) rrsetSameUptoCard

/-- THE SECOND FORM's CARD OF 'hearsaylaw05.RrsetSet'. -/
def rrsetSetUptoCard : Claim7 := { stood := { row := rrsetSetUptoRow, standIns := [], harness := (true, "374e8dd3ed1011cc1fbed46e0a93e779bec9b7dfedf26095d9e9431458768076"), looks := false }, kinds := [], alts := [], laidByText := true, laidKinds := [.data], laidTests := true, laidLooks := .later }
def RrsetSetUptoCardSaid : Prop := Claim7.holds Tryd.pinned (.plain (OpenSpec.upto rrsetSetSpec)) rrsetSetUptoCard
end Rows
end Go.Proofs.YtnpimahgdhpmfabDoor
