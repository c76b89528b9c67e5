/-
  DERIVED. GIVEN WITH THE SEED: THE CARDS: each row of YtmjoklppibfdmaaDoorRows.lean that lists a variable, with what it lists TIED to the program's text (the seventh form; the later family's looks); each row that meets fmt, with fmt's text TOLD by the authors' own Lean function (tested against real Go, not proved from fmt's source: count such statements apart). THE CARD IS WHAT COUNTS. Prove the row's statement (the work); the ties are given (YtmjoklppibfdmaaDoorTie.lean); close each card by the builder's one call (the guide's Derived/Test/ToyasCard.lean, 'card_holds'). Laid BY PROGRAM, IN A SANDBOX (cutbox-door.mjs). By AI agents, Wed Nov 11 2026. No macro, syntax, notation, axiom, sorry.
-/
import Derived.Test.YtmjoklppibfdmaaDoorRows
import GoSem.ClaimSeven
namespace Go.Proofs.YtmjoklppibfdmaaDoor
namespace Rows

/-- THE TIED CARD OF 'rostrumlaw03.LogLives'. -/
def logLivesCard : Claim7 := { stood := { row := logLivesRow, standIns := [], harness := (true, "b0edc312c2786d07989095ef5420c3ab3fb47dc952a6bc81f40067b84570b3f1"), looks := false }, kinds := [], alts := [], laidByText := true, laidKinds := [.data], laidTests := true, laidLooks := .later }
def LogLivesCardSaid : Prop := Claim7.holds Tryd.pinned (.plain (OpenSpec.ofChange logLivesSpec)) logLivesCard

/-- THE TIED CARD OF 'rostrumlaw03.LogForced'. -/
def logForcedCard : Claim7 := { stood := { row := logForcedRow, standIns := [], harness := (true, "b0edc312c2786d07989095ef5420c3ab3fb47dc952a6bc81f40067b84570b3f1"), looks := false }, kinds := [], alts := [], laidByText := true, laidKinds := [.data], laidTests := true, laidLooks := .later }
def LogForcedCardSaid : Prop := Claim7.holds Tryd.pinned (.plain (OpenSpec.ofChange logForcedSpec)) logForcedCard

/-- THE TIED CARD OF 'rostrumlaw03.LogBegins'. -/
def logBeginsCard : Claim7 := { stood := { row := logBeginsRow, standIns := [], harness := (true, "b0edc312c2786d07989095ef5420c3ab3fb47dc952a6bc81f40067b84570b3f1"), looks := false }, kinds := [], alts := [], laidByText := true, laidKinds := [.data], laidTests := true, laidLooks := .later }
def LogBeginsCardSaid : Prop := Claim7.holds Tryd.pinned (.plain (OpenSpec.ofChange logBeginsSpec)) logBeginsCard

/-- THE TIED CARD OF 'rostrumlaw03.LogAnew'. -/
def logAnewCard : Claim7 := { stood := { row := logAnewRow, standIns := [], harness := (true, "b0edc312c2786d07989095ef5420c3ab3fb47dc952a6bc81f40067b84570b3f1"), looks := false }, kinds := [], alts := [], laidByText := true, laidKinds := [.data], laidTests := true, laidLooks := .later }
def LogAnewCardSaid : Prop := Claim7.holds Tryd.pinned (.plain (OpenSpec.ofChange logAnewSpec)) logAnewCard

/-- THE SECOND FORM's CARD OF 'rostrumlaw03.LogLives'. -/
def logLivesUptoCard : Claim7 := { stood := { row := logLivesUptoRow, standIns := [], harness := (true, "b0edc312c2786d07989095ef5420c3ab3fb47dc952a6bc81f40067b84570b3f1"), looks := false }, kinds := [], alts := [], laidByText := true, laidKinds := [.data], laidTests := true, laidLooks := .later }
def LogLivesUptoCardSaid : Prop := Claim7.holds Tryd.pinned (.plain (OpenSpec.upto logLivesSpec)) logLivesUptoCard

/-- THE SECOND FORM's CARD OF 'rostrumlaw03.LogForced'. -/
def logForcedUptoCard : Claim7 := { stood := { row := logForcedUptoRow, standIns := [], harness := (true, "b0edc312c2786d07989095ef5420c3ab3fb47dc952a6bc81f40067b84570b3f1"), looks := false }, kinds := [], alts := [], laidByText := true, laidKinds := [.data], laidTests := true, laidLooks := .later }
def LogForcedUptoCardSaid : Prop := Claim7.holds Tryd.pinned (.plain (OpenSpec.upto logForcedSpec)) logForcedUptoCard

/-- THE SECOND FORM's CARD OF 'rostrumlaw03.LogBegins'. -/
def logBeginsUptoCard : Claim7 := { stood := { row := logBeginsUptoRow, standIns := [], harness := (true, "b0edc312c2786d07989095ef5420c3ab3fb47dc952a6bc81f40067b84570b3f1"), looks := false }, kinds := [], alts := [], laidByText := true, laidKinds := [.data], laidTests := true, laidLooks := .later }
def LogBeginsUptoCardSaid : Prop := Claim7.holds Tryd.pinned (.plain (OpenSpec.upto logBeginsSpec)) logBeginsUptoCard

/-- THE SECOND FORM's CARD OF 'rostrumlaw03.LogAnew'. -/
def logAnewUptoCard : Claim7 := { stood := { row := logAnewUptoRow, standIns := [], harness := (true, "b0edc312c2786d07989095ef5420c3ab3fb47dc952a6bc81f40067b84570b3f1"), looks := false }, kinds := [], alts := [], laidByText := true, laidKinds := [.data], laidTests := true, laidLooks := .later }
def LogAnewUptoCardSaid : Prop := Claim7.holds Tryd.pinned (.plain (OpenSpec.upto logAnewSpec)) logAnewUptoCard
end Rows
end Go.Proofs.YtmjoklppibfdmaaDoor
