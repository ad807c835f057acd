/-
  DERIVED. GIVEN WITH THE SEED: THE CARDS: each row of YtklpjlligmklfaaDoorRows.lean that lists a variable, with what it lists TIED to the program's text (the seventh form; the later family's looks); each row that meets fmt, with fmt's text TOLD by the authors' own Lean function (tested against real Go, not proved from fmt's source: count such statements apart). THE CARD IS WHAT COUNTS. Prove the row's statement (the work); the ties are given (YtklpjlligmklfaaDoorTie.lean); close each card by the builder's one call (the guide's Derived/Test/ToyasCard.lean, 'card_holds'). Laid BY PROGRAM, IN A SANDBOX (cutbox-door.mjs). By AI agents, Wed Nov 11 2026. No macro, syntax, notation, axiom, sorry.
-/
import Derived.Test.YtklpjlligmklfaaDoorRows
import GoSem.ClaimSeven
namespace Go.Proofs.YtklpjlligmklfaaDoor
namespace Rows

/-- THE TIED CARD OF 'hearsaylaw01.NameOf'. -/
def nameOfCard : Claim7 := { stood := { row := nameOfRow, standIns := [], harness := (true, "8909e85b8994233e0b82a6476c679b31829c8cc85f75377bb1e98c1108d509d0"), looks := true }, kinds := [], alts := [], laidByText := true, laidKinds := [.data, .data, .data, .sentinel, .sentinel], laidTests := true, laidLooks := .later }
def NameOfCardSaid : Prop := Claim7.holds Tryd.pinned (.plain (OpenSpec.ofChange nameOfSpec)) nameOfCard

/-- THE SECOND FORM's CARD OF 'hearsaylaw01.NameOf'. -/
def nameOfUptoCard : Claim7 := { stood := { row := nameOfUptoRow, standIns := [], harness := (true, "8909e85b8994233e0b82a6476c679b31829c8cc85f75377bb1e98c1108d509d0"), looks := true }, kinds := [], alts := [], laidByText := true, laidKinds := [.data, .data, .data, .sentinel, .sentinel], laidTests := true, laidLooks := .later }
def NameOfUptoCardSaid : Prop := Claim7.holds Tryd.pinned (.plain (OpenSpec.upto nameOfSpec)) nameOfUptoCard
end Rows
end Go.Proofs.YtklpjlligmklfaaDoor
