/-
  DERIVED. GIVEN WITH THE SEED: THE CARDS: each row of YtfobiknbjijphaaDoorRows.lean that lists a variable, with what it lists TIED to the program's text (the seventh form; the later family's looks); each row that meets fmt, with fmt's text TOLD by the authors' own Lean function (tested against real Go, not proved from fmt's source: count such statements apart). THE CARD IS WHAT COUNTS. Prove the row's statement (the work); the ties are given (YtfobiknbjijphaaDoorTie.lean); close each card by the builder's one call (the guide's Derived/Test/ToyasCard.lean, 'card_holds'). Laid BY PROGRAM, IN A SANDBOX (cutbox-door.mjs). By AI agents, Wed Nov 11 2026. No macro, syntax, notation, axiom, sorry.
-/
import Derived.Test.YtfobiknbjijphaaDoorRows
import GoSem.ClaimSeven
namespace Go.Proofs.YtfobiknbjijphaaDoor
namespace Rows

/-- THE TIED CARD OF 'rostrumlaw10.DatumReads'. -/
def datumReadsCard : Claim7 := { stood := { row := datumReadsRow, standIns := [], harness := (true, "cf21b6a9a155bbcf501b9e52d4078436e4a084abba0c49f3ca3461105ca5923e"), looks := true }, kinds := [], alts := [], laidByText := true, laidKinds := [.data, .pinned], laidTests := true, laidLooks := .later }
def DatumReadsCardSaid : Prop := Claim7.holds Tryd.pinned (.plain (OpenSpec.ofChange datumReadsSpec)) datumReadsCard

/-- THE TIED CARD OF 'rostrumlaw10.DatumBack'. -/
def datumBackCard : Claim7 := { stood := { row := datumBackRow, standIns := [], harness := (true, "cf21b6a9a155bbcf501b9e52d4078436e4a084abba0c49f3ca3461105ca5923e"), looks := true }, kinds := [], alts := [], laidByText := true, laidKinds := [.data, .pinned], laidTests := true, laidLooks := .later }
def DatumBackCardSaid : Prop := Claim7.holds Tryd.pinned (.plain (OpenSpec.ofChange datumBackSpec)) datumBackCard

/-- THE TIED CARD OF 'rostrumlaw10.DatumForm'. -/
def datumFormCard : Claim7 := { stood := { row := datumFormRow, standIns := [], harness := (true, "cf21b6a9a155bbcf501b9e52d4078436e4a084abba0c49f3ca3461105ca5923e"), looks := true }, kinds := [], alts := [], laidByText := true, laidKinds := [.data, .pinned], laidTests := true, laidLooks := .later }
def DatumFormCardSaid : Prop := Claim7.holds Tryd.pinned (.plain (OpenSpec.ofChange datumFormSpec)) datumFormCard

/-- THE TIED CARD OF 'rostrumlaw10.DatumBlanks'. -/
def datumBlanksCard : Claim7 := { stood := { row := datumBlanksRow, standIns := [], harness := (true, "cf21b6a9a155bbcf501b9e52d4078436e4a084abba0c49f3ca3461105ca5923e"), looks := true }, kinds := [], alts := [], laidByText := true, laidKinds := [.data, .pinned], laidTests := true, laidLooks := .later }
def DatumBlanksCardSaid : Prop := Claim7.holds Tryd.pinned (.plain (OpenSpec.ofChange datumBlanksSpec)) datumBlanksCard

/-- THE SECOND FORM's CARD OF 'rostrumlaw10.DatumReads'. -/
def datumReadsUptoCard : Claim7 := { stood := { row := datumReadsUptoRow, standIns := [], harness := (true, "cf21b6a9a155bbcf501b9e52d4078436e4a084abba0c49f3ca3461105ca5923e"), looks := true }, kinds := [], alts := [], laidByText := true, laidKinds := [.data, .pinned], laidTests := true, laidLooks := .later }
def DatumReadsUptoCardSaid : Prop := Claim7.holds Tryd.pinned (.plain (OpenSpec.upto datumReadsSpec)) datumReadsUptoCard

/-- THE SECOND FORM's CARD OF 'rostrumlaw10.DatumBack'. -/
def datumBackUptoCard : Claim7 := { stood := { row := datumBackUptoRow, standIns := [], harness := (true, "cf21b6a9a155bbcf501b9e52d4078436e4a084abba0c49f3ca3461105ca5923e"), looks := true }, kinds := [], alts := [], laidByText := true, laidKinds := [.data, .pinned], laidTests := true, laidLooks := .later }
def DatumBackUptoCardSaid : Prop := Claim7.holds Tryd.pinned (.plain (OpenSpec.upto datumBackSpec)) datumBackUptoCard

/-- THE SECOND FORM's CARD OF 'rostrumlaw10.DatumForm'. -/
def datumFormUptoCard : Claim7 := { stood := { row := datumFormUptoRow, standIns := [], harness := (true, "cf21b6a9a155bbcf501b9e52d4078436e4a084abba0c49f3ca3461105ca5923e"), looks := true }, kinds := [], alts := [], laidByText := true, laidKinds := [.data, .pinned], laidTests := true, laidLooks := .later }
def DatumFormUptoCardSaid : Prop := Claim7.holds Tryd.pinned (.plain (OpenSpec.upto datumFormSpec)) datumFormUptoCard

/-- THE SECOND FORM's CARD OF 'rostrumlaw10.DatumBlanks'. -/
def datumBlanksUptoCard : Claim7 := { stood := { row := datumBlanksUptoRow, standIns := [], harness := (true, "cf21b6a9a155bbcf501b9e52d4078436e4a084abba0c49f3ca3461105ca5923e"), looks := true }, kinds := [], alts := [], laidByText := true, laidKinds := [.data, .pinned], laidTests := true, laidLooks := .later }
def DatumBlanksUptoCardSaid : Prop := Claim7.holds Tryd.pinned (.plain (OpenSpec.upto datumBlanksSpec)) datumBlanksUptoCard
end Rows
end Go.Proofs.YtfobiknbjijphaaDoor
