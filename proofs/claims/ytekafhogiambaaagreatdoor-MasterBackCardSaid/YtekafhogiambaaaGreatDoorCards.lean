/-
  DERIVED. GIVEN WITH THE SEED: THE CARDS: each row of YtekafhogiambaaaGreatDoorRows.lean that lists a variable, with what it lists TIED to the program's text (the seventh form; the later family's looks); each row that meets fmt, with fmt's text TOLD by the authors' own Lean function (tested against real Go, not proved from fmt's source: count such statements apart). THE CARD IS WHAT COUNTS. Prove the row's statement (the work); the ties are given (YtekafhogiambaaaGreatDoorTie.lean); close each card by the builder's one call (the guide's Derived/Test/ToyasCard.lean, 'card_holds'). Laid BY PROGRAM, IN A SANDBOX (cutbox-door.mjs). By AI agents, Wed Nov 11 2026. No macro, syntax, notation, axiom, sorry.
-/
import Derived.Test.YtekafhogiambaaaGreatDoorRows
import GoSem.ClaimSeven
namespace Go.Proofs.YtekafhogiambaaaGreatDoor
namespace Rows

/-- THE TIED CARD OF 'hearsaylaw09.MasterBack'. -/
def masterBackCard : Claim7 := { stood := { row := masterBackRow, standIns := [], harness := (true, "80625647552da646ee278a4d9ff1e8219c85d44451ef33c438a5f597681b3fa4"), looks := true }, kinds := [], alts := [], laidByText := true, laidKinds := [.data, .data, .data, .data, .sentinel, .sentinel, .data, .pinned], laidTests := true, laidLooks := .later }
def MasterBackCardSaid : Prop := Claim7.holds Tryz.pinned (.plain (OpenSpec.ofChange masterBackSpec)) masterBackCard

/-- THE TIED CARD OF 'hearsaylaw09.MasterTail'. -/
def masterTailCard : Claim7 := { stood := { row := masterTailRow, standIns := [], harness := (true, "80625647552da646ee278a4d9ff1e8219c85d44451ef33c438a5f597681b3fa4"), looks := true }, kinds := [], alts := [], laidByText := true, laidKinds := [.data, .data, .data, .data, .sentinel, .sentinel, .data, .pinned], laidTests := true, laidLooks := .later }
def MasterTailCardSaid : Prop := Claim7.holds Tryz.pinned (.plain (OpenSpec.ofChange masterTailSpec)) masterTailCard

/-- THE SECOND FORM's CARD OF 'hearsaylaw09.MasterBack'. -/
def masterBackUptoCard : Claim7 := { stood := { row := masterBackUptoRow, standIns := [], harness := (true, "80625647552da646ee278a4d9ff1e8219c85d44451ef33c438a5f597681b3fa4"), looks := true }, kinds := [], alts := [], laidByText := true, laidKinds := [.data, .data, .data, .data, .sentinel, .sentinel, .data, .pinned], laidTests := true, laidLooks := .later }
def MasterBackUptoCardSaid : Prop := Claim7.holds Tryz.pinned (.plain (OpenSpec.upto masterBackSpec)) masterBackUptoCard

/-- THE SECOND FORM's CARD OF 'hearsaylaw09.MasterTail'. -/
def masterTailUptoCard : Claim7 := { stood := { row := masterTailUptoRow, standIns := [], harness := (true, "80625647552da646ee278a4d9ff1e8219c85d44451ef33c438a5f597681b3fa4"), looks := true }, kinds := [], alts := [], laidByText := true, laidKinds := [.data, .data, .data, .data, .sentinel, .sentinel, .data, .pinned], laidTests := true, laidLooks := .later }
def MasterTailUptoCardSaid : Prop := Claim7.holds Tryz.pinned (.plain (OpenSpec.upto masterTailSpec)) masterTailUptoCard
end Rows
end Go.Proofs.YtekafhogiambaaaGreatDoor
