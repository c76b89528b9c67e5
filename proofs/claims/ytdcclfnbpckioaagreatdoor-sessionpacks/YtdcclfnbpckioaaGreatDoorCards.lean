/-
  DERIVED. GIVEN WITH THE SEED: THE CARDS: each row of YtdcclfnbpckioaaGreatDoorRows.lean that lists a variable, with what it lists TIED to the program's text (the seventh form; the later family's looks); each row that meets fmt, with fmt's text TOLD by the authors' own Lean function (tested against real Go, not proved from fmt's source: count such statements apart). THE CARD IS WHAT COUNTS. Prove the row's statement (the work); the ties are given (YtdcclfnbpckioaaGreatDoorTie.lean); close each card by the builder's one call (the guide's Derived/Test/ToyasCard.lean, 'card_holds'). Laid BY PROGRAM, IN A SANDBOX (cutbox-door.mjs). By AI agents, Wed Nov 11 2026. No macro, syntax, notation, axiom, sorry.
-/
import Derived.Test.YtdcclfnbpckioaaGreatDoorRows
import GoSem.ClaimSeven
namespace Go.Proofs.YtdcclfnbpckioaaGreatDoor
namespace Rows

/-- THE TIED CARD OF 'rostrumlaw20.SessionPacks'. -/
def sessionPacksCard : Claim7 := { stood := { row := sessionPacksRow, standIns := [], harness := (true, "1721e2090212d7c6075e7893311575a7ba03de323eaee60103f07b88a637bbbb"), looks := false }, kinds := [], alts := [], laidByText := true, laidKinds := [.data, .data, .data, .data], laidTests := true, laidLooks := .later }
def SessionPacksCardSaid : Prop := Claim7.holds Tryz.pinned (.plain (OpenSpec.ofChange sessionPacksSpec)) sessionPacksCard

/-- THE SECOND FORM's CARD OF 'rostrumlaw20.SessionPacks'. -/
def sessionPacksUptoCard : Claim7 := { stood := { row := sessionPacksUptoRow, standIns := [], harness := (true, "1721e2090212d7c6075e7893311575a7ba03de323eaee60103f07b88a637bbbb"), looks := false }, kinds := [], alts := [], laidByText := true, laidKinds := [.data, .data, .data, .data], laidTests := true, laidLooks := .later }
def SessionPacksUptoCardSaid : Prop := Claim7.holds Tryz.pinned (.plain (OpenSpec.upto sessionPacksSpec)) sessionPacksUptoCard
end Rows
end Go.Proofs.YtdcclfnbpckioaaGreatDoor
