/-
  DERIVED. GIVEN WITH THE SEED: THE CARDS: each row of YtcifjpgimekcjaaGreatDoorRows.lean that lists a variable, with what it lists TIED to the program's text (the seventh form; the later family's looks); each row that meets fmt, with fmt's text TOLD by the authors' own Lean function (tested against real Go, not proved from fmt's source: count such statements apart). THE CARD IS WHAT COUNTS. Prove the row's statement (the work); the ties are given (YtcifjpgimekcjaaGreatDoorTie.lean); close each card by the builder's one call (the guide's Derived/Test/ToyasCard.lean, 'card_holds'). Laid BY PROGRAM, IN A SANDBOX (cutbox-door.mjs). By AI agents, Wed Nov 11 2026. No macro, syntax, notation, axiom, sorry.
-/
import Derived.Test.YtcifjpgimekcjaaGreatDoorRows
import GoSem.ClaimSeven
namespace Go.Proofs.YtcifjpgimekcjaaGreatDoor
namespace Rows

/-- THE TIED CARD OF 'rostrumlaw06.AriesNobody'. -/
def ariesNobodyCard : Claim7 := { stood := { row := ariesNobodyRow, standIns := [], harness := (true, "51451c091905b3d7cd7c1ce05934092f51020f680f5cde47fd6d1dac9e6172df"), looks := false }, kinds := [], alts := [], laidByText := true, laidKinds := [.data], laidTests := true, laidLooks := .later }
def AriesNobodyCardSaid : Prop := Claim7.holds Tryz.pinned (.plain (OpenSpec.ofChange ariesNobodySpec)) ariesNobodyCard

/-- THE SECOND FORM's CARD OF 'rostrumlaw06.AriesNobody'. -/
def ariesNobodyUptoCard : Claim7 := { stood := { row := ariesNobodyUptoRow, standIns := [], harness := (true, "51451c091905b3d7cd7c1ce05934092f51020f680f5cde47fd6d1dac9e6172df"), looks := false }, kinds := [], alts := [], laidByText := true, laidKinds := [.data], laidTests := true, laidLooks := .later }
def AriesNobodyUptoCardSaid : Prop := Claim7.holds Tryz.pinned (.plain (OpenSpec.upto ariesNobodySpec)) ariesNobodyUptoCard
end Rows
end Go.Proofs.YtcifjpgimekcjaaGreatDoor
