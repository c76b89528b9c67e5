/-
  DERIVED. GIVEN WITH THE SEED: THE CARDS: each row of YtnekefchbienoaaDoorRows.lean that lists a variable, with what it lists TIED to the program's text (the seventh form; the later family's looks); each row that meets fmt, with fmt's text TOLD by the authors' own Lean function (tested against real Go, not proved from fmt's source: count such statements apart). THE CARD IS WHAT COUNTS. Prove the row's statement (the work); the ties are given (YtnekefchbienoaaDoorTie.lean); close each card by the builder's one call (the guide's Derived/Test/ToyasCard.lean, 'card_holds'). Laid BY PROGRAM, IN A SANDBOX (cutbox-door.mjs). By AI agents, Wed Nov 11 2026. No macro, syntax, notation, axiom, sorry.
-/
import Derived.Test.YtnekefchbienoaaDoorRows
import GoSem.ClaimSeven
namespace Go.Proofs.YtnekefchbienoaaDoor
namespace Rows

/-- THE TIED CARD OF 'rostrumlaw15.PrimsNumbers'. -/
def primsNumbersCard : Claim7 := { stood := { row := primsNumbersRow, standIns := [], harness := (true, "3dfc65880393287321d2b6c60e8442d00533bc910f2730952f1ed5dde26423fe"), looks := true }, kinds := [], alts := [], laidByText := true, laidKinds := [.data, .data, .data, .sentinel, .sentinel], laidTests := true, laidLooks := .later }
def PrimsNumbersCardSaid : Prop := Claim7.holds Tryd.pinned (.plain (OpenSpec.ofChange primsNumbersSpec)) primsNumbersCard

/-- THE SECOND FORM's CARD OF 'rostrumlaw15.PrimsNumbers'. -/
def primsNumbersUptoCard : Claim7 := { stood := { row := primsNumbersUptoRow, standIns := [], harness := (true, "3dfc65880393287321d2b6c60e8442d00533bc910f2730952f1ed5dde26423fe"), looks := true }, kinds := [], alts := [], laidByText := true, laidKinds := [.data, .data, .data, .sentinel, .sentinel], laidTests := true, laidLooks := .later }
def PrimsNumbersUptoCardSaid : Prop := Claim7.holds Tryd.pinned (.plain (OpenSpec.upto primsNumbersSpec)) primsNumbersUptoCard
end Rows
end Go.Proofs.YtnekefchbienoaaDoor
