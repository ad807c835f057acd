/-
  DERIVED. GIVEN WITH THE SEED: THE CARDS: each row of YtmieakkhpkclpaaDoorRows.lean that lists a variable, with what it lists TIED to the program's text (the seventh form; the later family's looks); each row that meets fmt, with fmt's text TOLD by the authors' own Lean function (tested against real Go, not proved from fmt's source: count such statements apart). THE CARD IS WHAT COUNTS. Prove the row's statement (the work); the ties are given (YtmieakkhpkclpaaDoorTie.lean); close each card by the builder's one call (the guide's Derived/Test/ToyasCard.lean, 'card_holds'). Laid BY PROGRAM, IN A SANDBOX (cutbox-door.mjs). By AI agents, Wed Nov 11 2026. No macro, syntax, notation, axiom, sorry.
-/
import Derived.Test.YtmieakkhpkclpaaDoorRows
import GoSem.ClaimSeven
namespace Go.Proofs.YtmieakkhpkclpaaDoor
namespace Rows

/-- THE TIED CARD OF 'hearsaylaw05.RrsetSets'. -/
def rrsetSetsCard : Claim7 := { stood := { row := rrsetSetsRow, standIns := [], harness := (true, "387200dc107f16ebaea68923d1a12acac9caafd5a54dc9050872f13b0f53dd87"), looks := false }, kinds := [], alts := [], laidByText := true, laidKinds := [.data], laidTests := true, laidLooks := .later }
def RrsetSetsCardSaid : Prop := Claim7.holds Tryd.pinned (.plain (OpenSpec.ofChange rrsetSetsSpec)) rrsetSetsCard

/-- THE SECOND FORM's CARD OF 'hearsaylaw05.RrsetSets'. -/
def rrsetSetsUptoCard : Claim7 := { stood := { row := rrsetSetsUptoRow, standIns := [], harness := (true, "387200dc107f16ebaea68923d1a12acac9caafd5a54dc9050872f13b0f53dd87"), looks := false }, kinds := [], alts := [], laidByText := true, laidKinds := [.data], laidTests := true, laidLooks := .later }
def RrsetSetsUptoCardSaid : Prop := Claim7.holds Tryd.pinned (.plain (OpenSpec.upto rrsetSetsSpec)) rrsetSetsUptoCard
end Rows
end Go.Proofs.YtmieakkhpkclpaaDoor
