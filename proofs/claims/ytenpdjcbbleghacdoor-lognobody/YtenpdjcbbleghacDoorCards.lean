/-
  DERIVED. GIVEN WITH THE SEED: THE CARDS: each row of YtenpdjcbbleghacDoorRows.lean that lists a variable, with what it lists TIED to the program's text (the seventh form; the later family's looks); each row that meets fmt, with fmt's text TOLD by the authors' own Lean function (tested against real Go, not proved from fmt's source: count such statements apart). THE CARD IS WHAT COUNTS. Prove the row's statement (the work); the ties are given (YtenpdjcbbleghacDoorTie.lean); close each card by the builder's one call (the guide's Derived/Test/ToyasCard.lean, 'card_holds'). Laid BY PROGRAM, IN A SANDBOX (cutbox-door.mjs). By AI agents, Wed Nov 11 2026. No macro, syntax, notation, axiom, sorry.
-/
import Derived.Test.YtenpdjcbbleghacDoorRows
import GoSem.ClaimSeven
namespace Go.Proofs.YtenpdjcbbleghacDoor
namespace Rows

/-- THE TIED CARD OF 'rostrumlaw03.LogForced'. -/
def logForcedCard : Claim7 := { stood := { row := logForcedRow, standIns := [], harness := (true, "92fbbd03a73622f1507a219c59f52580ed8587666b62e1a1b3fe45a4c1e2e4c3"), looks := false }, kinds := [], alts := [], laidByText := true, laidKinds := [.data], laidTests := true, laidLooks := .later }
def LogForcedCardSaid : Prop := Claim7.holds Tryd.pinned (.plain (OpenSpec.ofChange logForcedSpec)) logForcedCard

/-- THE TIED CARD OF 'rostrumlaw03.LogBegins'. -/
def logBeginsCard : Claim7 := { stood := { row := logBeginsRow, standIns := [], harness := (true, "92fbbd03a73622f1507a219c59f52580ed8587666b62e1a1b3fe45a4c1e2e4c3"), looks := false }, kinds := [], alts := [], laidByText := true, laidKinds := [.data], laidTests := true, laidLooks := .later }
def LogBeginsCardSaid : Prop := Claim7.holds Tryd.pinned (.plain (OpenSpec.ofChange logBeginsSpec)) logBeginsCard

/-- THE TIED CARD OF 'rostrumlaw03.LogAnew'. -/
def logAnewCard : Claim7 := { stood := { row := logAnewRow, standIns := [], harness := (true, "92fbbd03a73622f1507a219c59f52580ed8587666b62e1a1b3fe45a4c1e2e4c3"), looks := false }, kinds := [], alts := [], laidByText := true, laidKinds := [.data], laidTests := true, laidLooks := .later }
def LogAnewCardSaid : Prop := Claim7.holds Tryd.pinned (.plain (OpenSpec.ofChange logAnewSpec)) logAnewCard

/-- THE TIED CARD OF 'rostrumlaw03.LogNobody'. -/
def logNobodyCard : Claim7 := { stood := { row := logNobodyRow, standIns := [], harness := (true, "92fbbd03a73622f1507a219c59f52580ed8587666b62e1a1b3fe45a4c1e2e4c3"), looks := false }, kinds := [], alts := [], laidByText := true, laidKinds := [.data], laidTests := true, laidLooks := .later }
def LogNobodyCardSaid : Prop := Claim7.holds Tryd.pinned (.plain (OpenSpec.ofChange logNobodySpec)) logNobodyCard

/-- THE TIED CARD OF 'rostrumlaw03.LogRoom'. -/
def logRoomCard : Claim7 := { stood := { row := logRoomRow, standIns := [], harness := (true, "92fbbd03a73622f1507a219c59f52580ed8587666b62e1a1b3fe45a4c1e2e4c3"), looks := false }, kinds := [], alts := [], laidByText := true, laidKinds := [.data], laidTests := true, laidLooks := .later }
def LogRoomCardSaid : Prop := Claim7.holds Tryd.pinned (.plain (OpenSpec.ofChange logRoomSpec)) logRoomCard

/-- THE TIED CARD OF 'rostrumlaw04.PageSectors'. -/
def pageSectorsCard : Claim7 := { stood := { row := pageSectorsRow, standIns := [], harness := (true, "92fbbd03a73622f1507a219c59f52580ed8587666b62e1a1b3fe45a4c1e2e4c3"), looks := false }, kinds := [], alts := [], laidByText := true, laidKinds := [.data], laidTests := true, laidLooks := .later }
def PageSectorsCardSaid : Prop := Claim7.holds Tryd.pinned (.plain (OpenSpec.ofChange pageSectorsSpec)) pageSectorsCard

/-- THE SECOND FORM's CARD OF 'rostrumlaw03.LogForced'. -/
def logForcedUptoCard : Claim7 := { stood := { row := logForcedUptoRow, standIns := [], harness := (true, "92fbbd03a73622f1507a219c59f52580ed8587666b62e1a1b3fe45a4c1e2e4c3"), looks := false }, kinds := [], alts := [], laidByText := true, laidKinds := [.data], laidTests := true, laidLooks := .later }
def LogForcedUptoCardSaid : Prop := Claim7.holds Tryd.pinned (.plain (OpenSpec.upto logForcedSpec)) logForcedUptoCard

/-- THE SECOND FORM's CARD OF 'rostrumlaw03.LogBegins'. -/
def logBeginsUptoCard : Claim7 := { stood := { row := logBeginsUptoRow, standIns := [], harness := (true, "92fbbd03a73622f1507a219c59f52580ed8587666b62e1a1b3fe45a4c1e2e4c3"), looks := false }, kinds := [], alts := [], laidByText := true, laidKinds := [.data], laidTests := true, laidLooks := .later }
def LogBeginsUptoCardSaid : Prop := Claim7.holds Tryd.pinned (.plain (OpenSpec.upto logBeginsSpec)) logBeginsUptoCard

/-- THE SECOND FORM's CARD OF 'rostrumlaw03.LogAnew'. -/
def logAnewUptoCard : Claim7 := { stood := { row := logAnewUptoRow, standIns := [], harness := (true, "92fbbd03a73622f1507a219c59f52580ed8587666b62e1a1b3fe45a4c1e2e4c3"), looks := false }, kinds := [], alts := [], laidByText := true, laidKinds := [.data], laidTests := true, laidLooks := .later }
def LogAnewUptoCardSaid : Prop := Claim7.holds Tryd.pinned (.plain (OpenSpec.upto logAnewSpec)) logAnewUptoCard

/-- THE SECOND FORM's CARD OF 'rostrumlaw03.LogNobody'. -/
def logNobodyUptoCard : Claim7 := { stood := { row := logNobodyUptoRow, standIns := [], harness := (true, "92fbbd03a73622f1507a219c59f52580ed8587666b62e1a1b3fe45a4c1e2e4c3"), looks := false }, kinds := [], alts := [], laidByText := true, laidKinds := [.data], laidTests := true, laidLooks := .later }
def LogNobodyUptoCardSaid : Prop := Claim7.holds Tryd.pinned (.plain (OpenSpec.upto logNobodySpec)) logNobodyUptoCard

/-- THE SECOND FORM's CARD OF 'rostrumlaw03.LogRoom'. -/
def logRoomUptoCard : Claim7 := { stood := { row := logRoomUptoRow, standIns := [], harness := (true, "92fbbd03a73622f1507a219c59f52580ed8587666b62e1a1b3fe45a4c1e2e4c3"), looks := false }, kinds := [], alts := [], laidByText := true, laidKinds := [.data], laidTests := true, laidLooks := .later }
def LogRoomUptoCardSaid : Prop := Claim7.holds Tryd.pinned (.plain (OpenSpec.upto logRoomSpec)) logRoomUptoCard

/-- THE SECOND FORM's CARD OF 'rostrumlaw04.PageSectors'. -/
def pageSectorsUptoCard : Claim7 := { stood := { row := pageSectorsUptoRow, standIns := [], harness := (true, "92fbbd03a73622f1507a219c59f52580ed8587666b62e1a1b3fe45a4c1e2e4c3"), looks := false }, kinds := [], alts := [], laidByText := true, laidKinds := [.data], laidTests := true, laidLooks := .later }
def PageSectorsUptoCardSaid : Prop := Claim7.holds Tryd.pinned (.plain (OpenSpec.upto pageSectorsSpec)) pageSectorsUptoCard
end Rows
end Go.Proofs.YtenpdjcbbleghacDoor
