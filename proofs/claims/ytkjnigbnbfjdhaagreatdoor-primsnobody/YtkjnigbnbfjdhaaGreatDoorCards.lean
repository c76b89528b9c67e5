/-
  DERIVED. GIVEN WITH THE SEED: THE CARDS: each row of YtkjnigbnbfjdhaaGreatDoorRows.lean that lists a variable, with what it lists TIED to the program's text (the seventh form; the later family's looks); each row that meets fmt, with fmt's text TOLD by the authors' own Lean function (tested against real Go, not proved from fmt's source: count such statements apart). THE CARD IS WHAT COUNTS. Prove the row's statement (the work); the ties are given (YtkjnigbnbfjdhaaGreatDoorTie.lean); close each card by the builder's one call (the guide's Derived/Test/ToyasCard.lean, 'card_holds'). Laid BY PROGRAM, IN A SANDBOX (cutbox-door.mjs). By AI agents, Wed Nov 11 2026. No macro, syntax, notation, axiom, sorry.
-/
import Derived.Test.YtkjnigbnbfjdhaaGreatDoorRows
import GoSem.ClaimSeven
namespace Go.Proofs.YtkjnigbnbfjdhaaGreatDoor
namespace Rows

/-- THE TIED CARD OF 'rostrumlaw15.PrimsNames'. -/
def primsNamesCard : Claim7 := { stood := { row := primsNamesRow, standIns := [], harness := (true, "560914f322297e43fc0065961a8edaa86077be86f64a32f70615dd251d52d9cc"), looks := true }, kinds := [], alts := [], laidByText := true, laidKinds := [.data, .data, .data, .sentinel, .sentinel, .data], laidTests := true, laidLooks := .later }
def PrimsNamesCardSaid : Prop := Claim7.holds Tryz.pinned (.plain (OpenSpec.ofChange primsNamesSpec)) primsNamesCard

/-- THE TIED CARD OF 'rostrumlaw15.PrimsNobody'. -/
def primsNobodyCard : Claim7 := { stood := { row := primsNobodyRow, standIns := [], harness := (true, "560914f322297e43fc0065961a8edaa86077be86f64a32f70615dd251d52d9cc"), looks := true }, kinds := [], alts := [], laidByText := true, laidKinds := [.data, .data, .data, .sentinel, .sentinel, .data], laidTests := true, laidLooks := .later }
def PrimsNobodyCardSaid : Prop := Claim7.holds Tryz.pinned (.plain (OpenSpec.ofChange primsNobodySpec)) primsNobodyCard

/-- THE TIED CARD OF 'rostrumlaw16.SerialNobody'. -/
def serialNobodyCard : Claim7 := { stood := { row := serialNobodyRow, standIns := [], harness := (true, "560914f322297e43fc0065961a8edaa86077be86f64a32f70615dd251d52d9cc"), looks := true }, kinds := [], alts := [], laidByText := true, laidKinds := [.data, .data, .data], laidTests := true, laidLooks := .later }
def SerialNobodyCardSaid : Prop := Claim7.holds Tryz.pinned (.plain (OpenSpec.ofChange serialNobodySpec)) serialNobodyCard

/-- THE SECOND FORM's CARD OF 'rostrumlaw15.PrimsNames'. -/
def primsNamesUptoCard : Claim7 := { stood := { row := primsNamesUptoRow, standIns := [], harness := (true, "560914f322297e43fc0065961a8edaa86077be86f64a32f70615dd251d52d9cc"), looks := true }, kinds := [], alts := [], laidByText := true, laidKinds := [.data, .data, .data, .sentinel, .sentinel, .data], laidTests := true, laidLooks := .later }
def PrimsNamesUptoCardSaid : Prop := Claim7.holds Tryz.pinned (.plain (OpenSpec.upto primsNamesSpec)) primsNamesUptoCard

/-- THE SECOND FORM's CARD OF 'rostrumlaw15.PrimsNobody'. -/
def primsNobodyUptoCard : Claim7 := { stood := { row := primsNobodyUptoRow, standIns := [], harness := (true, "560914f322297e43fc0065961a8edaa86077be86f64a32f70615dd251d52d9cc"), looks := true }, kinds := [], alts := [], laidByText := true, laidKinds := [.data, .data, .data, .sentinel, .sentinel, .data], laidTests := true, laidLooks := .later }
def PrimsNobodyUptoCardSaid : Prop := Claim7.holds Tryz.pinned (.plain (OpenSpec.upto primsNobodySpec)) primsNobodyUptoCard

/-- THE SECOND FORM's CARD OF 'rostrumlaw16.SerialNobody'. -/
def serialNobodyUptoCard : Claim7 := { stood := { row := serialNobodyUptoRow, standIns := [], harness := (true, "560914f322297e43fc0065961a8edaa86077be86f64a32f70615dd251d52d9cc"), looks := true }, kinds := [], alts := [], laidByText := true, laidKinds := [.data, .data, .data], laidTests := true, laidLooks := .later }
def SerialNobodyUptoCardSaid : Prop := Claim7.holds Tryz.pinned (.plain (OpenSpec.upto serialNobodySpec)) serialNobodyUptoCard
end Rows
end Go.Proofs.YtkjnigbnbfjdhaaGreatDoor
