/-
  DERIVED. GIVEN WITH THE SEED: THE CARDS: each row of YtapbcepjcnnkgaaDoorRows.lean that lists a variable, with what it lists TIED to the program's text (the seventh form; the later family's looks); each row that meets fmt, with fmt's text TOLD by the authors' own Lean function (tested against real Go, not proved from fmt's source: count such statements apart). THE CARD IS WHAT COUNTS. Prove the row's statement (the work); the ties are given (YtapbcepjcnnkgaaDoorTie.lean); close each card by the builder's one call (the guide's Derived/Test/ToyasCard.lean, 'card_holds'). Laid BY PROGRAM, IN A SANDBOX (cutbox-door.mjs). By AI agents, Wed Nov 11 2026. No macro, syntax, notation, axiom, sorry.
-/
import Derived.Test.YtapbcepjcnnkgaaDoorRows
import GoSem.ClaimSeven
namespace Go.Proofs.YtapbcepjcnnkgaaDoor
namespace Rows

/-- THE TIED CARD OF 'hearsaylaw05.RrsetSets'. -/
def rrsetSetsCard : Claim7 := { stood := { row := rrsetSetsRow, standIns := [], harness := (true, "1dc25fc191f7442a9ea824cf4d98c1243d9843dfd0bf975b246f6fc3b99a0011"), looks := false }, kinds := [], alts := [], laidByText := true, laidKinds := [.data], laidTests := true, laidLooks := .later }
def RrsetSetsCardSaid : Prop := Claim7.holds Tryd.pinned (.plain (OpenSpec.ofChange rrsetSetsSpec)) rrsetSetsCard

/-- THE TIED CARD OF 'hearsaylaw05.RrsetSet'. -/
def rrsetSetCard : Claim7 := { stood := { row := rrsetSetRow, standIns := [], harness := (true, "1dc25fc191f7442a9ea824cf4d98c1243d9843dfd0bf975b246f6fc3b99a0011"), looks := false }, kinds := [], alts := [], laidByText := true, laidKinds := [.data], laidTests := true, laidLooks := .later }
def RrsetSetCardSaid : Prop := Claim7.holds Tryd.pinned (.plain (OpenSpec.ofChange rrsetSetSpec)) rrsetSetCard

/-- THE SECOND FORM's CARD OF 'hearsaylaw05.RrsetSets'. -/
def rrsetSetsUptoCard : Claim7 := { stood := { row := rrsetSetsUptoRow, standIns := [], harness := (true, "1dc25fc191f7442a9ea824cf4d98c1243d9843dfd0bf975b246f6fc3b99a0011"), looks := false }, kinds := [], alts := [], laidByText := true, laidKinds := [.data], laidTests := true, laidLooks := .later }
def RrsetSetsUptoCardSaid : Prop := Claim7.holds Tryd.pinned (.plain (OpenSpec.upto rrsetSetsSpec)) rrsetSetsUptoCard

/-- THE SECOND FORM's CARD OF 'hearsaylaw05.RrsetSet'. -/
def rrsetSetUptoCard : Claim7 := { stood := { row := rrsetSetUptoRow, standIns := [], harness := (true, "1dc25fc191f7442a9ea824cf4d98c1243d9843dfd0bf975b246f6fc3b99a0011"), looks := false }, kinds := [], alts := [], laidByText := true, laidKinds := [.data], laidTests := true, laidLooks := .later }
def RrsetSetUptoCardSaid : Prop := Claim7.holds Tryd.pinned (.plain (OpenSpec.upto rrsetSetSpec)) rrsetSetUptoCard
end Rows
end Go.Proofs.YtapbcepjcnnkgaaDoor
