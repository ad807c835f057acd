/-
  DERIVED. GIVEN WITH THE SEED: THE CARDS: each row of YtcillepoibpfiaaDoorRows.lean that lists a variable, with what it lists TIED to the program's text (the seventh form; the later family's looks); each row that meets fmt, with fmt's text TOLD by the authors' own Lean function (tested against real Go, not proved from fmt's source: count such statements apart). THE CARD IS WHAT COUNTS. Prove the row's statement (the work); the ties are given (YtcillepoibpfiaaDoorTie.lean); close each card by the builder's one call (the guide's Derived/Test/ToyasCard.lean, 'card_holds'). Laid BY PROGRAM, IN A SANDBOX (cutbox-door.mjs). By AI agents, Wed Nov 11 2026. No macro, syntax, notation, axiom, sorry.
-/
import Derived.Test.YtcillepoibpfiaaDoorRows
import GoSem.ClaimSeven
namespace Go.Proofs.YtcillepoibpfiaaDoor
namespace Rows

/-- THE TIED CARD OF 'hearsaylaw05.RrsetFolds'. -/
def rrsetFoldsCard : Claim7 := { stood := { row := rrsetFoldsRow, standIns := [], harness := (true, "9ec0b6a8f244bfde857aba381dbb034270b42b17b0fe7d8136ab2939fc55dfa5"), looks := true }, kinds := [], alts := [], laidByText := true, laidKinds := [.data], laidTests := true, laidLooks := .later }
def RrsetFoldsCardSaid : Prop := Claim7.holds Tryd.pinned (.plain (OpenSpec.ofChange rrsetFoldsSpec)) rrsetFoldsCard

/-- THE TIED CARD OF 'hearsaylaw05.RrsetCmps'. -/
def rrsetCmpsCard : Claim7 := { stood := { row := rrsetCmpsRow, standIns := [], harness := (true, "9ec0b6a8f244bfde857aba381dbb034270b42b17b0fe7d8136ab2939fc55dfa5"), looks := true }, kinds := [], alts := [], laidByText := true, laidKinds := [.data], laidTests := true, laidLooks := .later }
def RrsetCmpsCardSaid : Prop := Claim7.holds Tryd.pinned (.plain (OpenSpec.ofChange rrsetCmpsSpec)) rrsetCmpsCard

/-- THE TIED CARD OF 'hearsaylaw05.RrsetSets'. -/
def rrsetSetsCard : Claim7 := { stood := { row := rrsetSetsRow, standIns := [], harness := (true, "9ec0b6a8f244bfde857aba381dbb034270b42b17b0fe7d8136ab2939fc55dfa5"), looks := true }, kinds := [], alts := [], laidByText := true, laidKinds := [.data], laidTests := true, laidLooks := .later }
def RrsetSetsCardSaid : Prop := Claim7.holds Tryd.pinned (.plain (OpenSpec.ofChange rrsetSetsSpec)) rrsetSetsCard

/-- THE TIED CARD OF 'hearsaylaw05.RrsetSame'. -/
def rrsetSameCard : Claim7 := { stood := { row := rrsetSameRow, standIns := [], harness := (true, "9ec0b6a8f244bfde857aba381dbb034270b42b17b0fe7d8136ab2939fc55dfa5"), looks := true }, kinds := [], alts := [], laidByText := true, laidKinds := [.data], laidTests := true, laidLooks := .later }
def RrsetSameCardSaid : Prop := Claim7.holds Tryd.pinned (.plain (OpenSpec.ofChange rrsetSameSpec)) rrsetSameCard

/-- THE TIED CARD OF 'hearsaylaw05.RrsetOrder'. -/
def rrsetOrderCard : Claim7 := { stood := { row := rrsetOrderRow, standIns := [], harness := (true, "9ec0b6a8f244bfde857aba381dbb034270b42b17b0fe7d8136ab2939fc55dfa5"), looks := true }, kinds := [], alts := [], laidByText := true, laidKinds := [.data], laidTests := true, laidLooks := .later }
def RrsetOrderCardSaid : Prop := Claim7.holds Tryd.pinned (.plain (OpenSpec.ofChange rrsetOrderSpec)) rrsetOrderCard

/-- THE TIED CARD OF 'hearsaylaw05.RrsetSet'. -/
def rrsetSetCard : Claim7 := { stood := { row := rrsetSetRow, standIns := [], harness := (true, "9ec0b6a8f244bfde857aba381dbb034270b42b17b0fe7d8136ab2939fc55dfa5"), looks := true }, kinds := [], alts := [], laidByText := true, laidKinds := [.data], laidTests := true, laidLooks := .later }
def RrsetSetCardSaid : Prop := Claim7.holds Tryd.pinned (.plain (OpenSpec.ofChange rrsetSetSpec)) rrsetSetCard

/-- THE TIED CARD OF 'hearsaylaw06.MessagePacks'. -/
def messagePacksCard : Claim7 := { stood := { row := messagePacksRow, standIns := [], harness := (true, "9ec0b6a8f244bfde857aba381dbb034270b42b17b0fe7d8136ab2939fc55dfa5"), looks := true }, kinds := [], alts := [], laidByText := true, laidKinds := [.data], laidTests := true, laidLooks := .later }
def MessagePacksCardSaid : Prop := Claim7.holds Tryd.pinned (.plain (OpenSpec.ofChange messagePacksSpec)) messagePacksCard

/-- THE TIED CARD OF 'hearsaylaw06.MessageBack'. -/
def messageBackCard : Claim7 := { stood := { row := messageBackRow, standIns := [], harness := (true, "9ec0b6a8f244bfde857aba381dbb034270b42b17b0fe7d8136ab2939fc55dfa5"), looks := true }, kinds := [], alts := [], laidByText := true, laidKinds := [.data], laidTests := true, laidLooks := .later }
def MessageBackCardSaid : Prop := Claim7.holds Tryd.pinned (.plain (OpenSpec.ofChange messageBackSpec)) messageBackCard

/-- THE TIED CARD OF 'hearsaylaw06.MessageAgain'. -/
def messageAgainCard : Claim7 := { stood := { row := messageAgainRow, standIns := [], harness := (true, "9ec0b6a8f244bfde857aba381dbb034270b42b17b0fe7d8136ab2939fc55dfa5"), looks := true }, kinds := [], alts := [], laidByText := true, laidKinds := [.data], laidTests := true, laidLooks := .later }
def MessageAgainCardSaid : Prop := Claim7.holds Tryd.pinned (.plain (OpenSpec.ofChange messageAgainSpec)) messageAgainCard

/-- THE TIED CARD OF 'hearsaylaw06.MessageSize'. -/
def messageSizeCard : Claim7 := { stood := { row := messageSizeRow, standIns := [], harness := (true, "9ec0b6a8f244bfde857aba381dbb034270b42b17b0fe7d8136ab2939fc55dfa5"), looks := true }, kinds := [], alts := [], laidByText := true, laidKinds := [.data], laidTests := true, laidLooks := .later }
def MessageSizeCardSaid : Prop := Claim7.holds Tryd.pinned (.plain (OpenSpec.ofChange messageSizeSpec)) messageSizeCard

/-- THE SECOND FORM's CARD OF 'hearsaylaw05.RrsetFolds'. -/
def rrsetFoldsUptoCard : Claim7 := { stood := { row := rrsetFoldsUptoRow, standIns := [], harness := (true, "9ec0b6a8f244bfde857aba381dbb034270b42b17b0fe7d8136ab2939fc55dfa5"), looks := true }, kinds := [], alts := [], laidByText := true, laidKinds := [.data], laidTests := true, laidLooks := .later }
def RrsetFoldsUptoCardSaid : Prop := Claim7.holds Tryd.pinned (.plain (OpenSpec.upto rrsetFoldsSpec)) rrsetFoldsUptoCard

/-- THE SECOND FORM's CARD OF 'hearsaylaw05.RrsetCmps'. -/
def rrsetCmpsUptoCard : Claim7 := { stood := { row := rrsetCmpsUptoRow, standIns := [], harness := (true, "9ec0b6a8f244bfde857aba381dbb034270b42b17b0fe7d8136ab2939fc55dfa5"), looks := true }, kinds := [], alts := [], laidByText := true, laidKinds := [.data], laidTests := true, laidLooks := .later }
def RrsetCmpsUptoCardSaid : Prop := Claim7.holds Tryd.pinned (.plain (OpenSpec.upto rrsetCmpsSpec)) rrsetCmpsUptoCard

/-- THE SECOND FORM's CARD OF 'hearsaylaw05.RrsetSets'. -/
def rrsetSetsUptoCard : Claim7 := { stood := { row := rrsetSetsUptoRow, standIns := [], harness := (true, "9ec0b6a8f244bfde857aba381dbb034270b42b17b0fe7d8136ab2939fc55dfa5"), looks := true }, kinds := [], alts := [], laidByText := true, laidKinds := [.data], laidTests := true, laidLooks := .later }
def RrsetSetsUptoCardSaid : Prop := Claim7.holds Tryd.pinned (.plain (OpenSpec.upto rrsetSetsSpec)) rrsetSetsUptoCard

/-- THE SECOND FORM's CARD OF 'hearsaylaw05.RrsetSame'. -/
def rrsetSameUptoCard : Claim7 := { stood := { row := rrsetSameUptoRow, standIns := [], harness := (true, "9ec0b6a8f244bfde857aba381dbb034270b42b17b0fe7d8136ab2939fc55dfa5"), looks := true }, kinds := [], alts := [], laidByText := true, laidKinds := [.data], laidTests := true, laidLooks := .later }
def RrsetSameUptoCardSaid : Prop := Claim7.holds Tryd.pinned (.plain (OpenSpec.upto rrsetSameSpec)) rrsetSameUptoCard

/-- THE SECOND FORM's CARD OF 'hearsaylaw05.RrsetOrder'. -/
def rrsetOrderUptoCard : Claim7 := { stood := { row := rrsetOrderUptoRow, standIns := [], harness := (true, "9ec0b6a8f244bfde857aba381dbb034270b42b17b0fe7d8136ab2939fc55dfa5"), looks := true }, kinds := [], alts := [], laidByText := true, laidKinds := [.data], laidTests := true, laidLooks := .later }
def RrsetOrderUptoCardSaid : Prop := Claim7.holds Tryd.pinned (.plain (OpenSpec.upto rrsetOrderSpec)) rrsetOrderUptoCard

/-- THE SECOND FORM's CARD OF 'hearsaylaw05.RrsetSet'. -/
def rrsetSetUptoCard : Claim7 := { stood := { row := rrsetSetUptoRow, standIns := [], harness := (true, "9ec0b6a8f244bfde857aba381dbb034270b42b17b0fe7d8136ab2939fc55dfa5"), looks := true }, kinds := [], alts := [], laidByText := true, laidKinds := [.data], laidTests := true, laidLooks := .later }
def RrsetSetUptoCardSaid : Prop := Claim7.holds Tryd.pinned (.plain (OpenSpec.upto rrsetSetSpec)) rrsetSetUptoCard

/-- THE SECOND FORM's CARD OF 'hearsaylaw06.MessagePacks'. -/
def messagePacksUptoCard : Claim7 := { stood := { row := messagePacksUptoRow, standIns := [], harness := (true, "9ec0b6a8f244bfde857aba381dbb034270b42b17b0fe7d8136ab2939fc55dfa5"), looks := true }, kinds := [], alts := [], laidByText := true, laidKinds := [.data], laidTests := true, laidLooks := .later }
def MessagePacksUptoCardSaid : Prop := Claim7.holds Tryd.pinned (.plain (OpenSpec.upto messagePacksSpec)) messagePacksUptoCard

/-- THE SECOND FORM's CARD OF 'hearsaylaw06.MessageBack'. -/
def messageBackUptoCard : Claim7 := { stood := { row := messageBackUptoRow, standIns := [], harness := (true, "9ec0b6a8f244bfde857aba381dbb034270b42b17b0fe7d8136ab2939fc55dfa5"), looks := true }, kinds := [], alts := [], laidByText := true, laidKinds := [.data], laidTests := true, laidLooks := .later }
def MessageBackUptoCardSaid : Prop := Claim7.holds Tryd.pinned (.plain (OpenSpec.upto messageBackSpec)) messageBackUptoCard

/-- THE SECOND FORM's CARD OF 'hearsaylaw06.MessageAgain'. -/
def messageAgainUptoCard : Claim7 := { stood := { row := messageAgainUptoRow, standIns := [], harness := (true, "9ec0b6a8f244bfde857aba381dbb034270b42b17b0fe7d8136ab2939fc55dfa5"), looks := true }, kinds := [], alts := [], laidByText := true, laidKinds := [.data], laidTests := true, laidLooks := .later }
def MessageAgainUptoCardSaid : Prop := Claim7.holds Tryd.pinned (.plain (OpenSpec.upto messageAgainSpec)) messageAgainUptoCard

/-- THE SECOND FORM's CARD OF 'hearsaylaw06.MessageSize'. -/
def messageSizeUptoCard : Claim7 := { stood := { row := messageSizeUptoRow, standIns := [], harness := (true, "9ec0b6a8f244bfde857aba381dbb034270b42b17b0fe7d8136ab2939fc55dfa5"), looks := true }, kinds := [], alts := [], laidByText := true, laidKinds := [.data], laidTests := true, laidLooks := .later }
def MessageSizeUptoCardSaid : Prop := Claim7.holds Tryd.pinned (.plain (OpenSpec.upto messageSizeSpec)) messageSizeUptoCard
end Rows
end Go.Proofs.YtcillepoibpfiaaDoor
