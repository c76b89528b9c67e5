/-
  DERIVED. GIVEN WITH THE SEED: THE CARDS: each row of YthfokciijcmhbaaGreatDoorRows.lean that lists a variable, with what it lists TIED to the program's text (the seventh form; the later family's looks); each row that meets fmt, with fmt's text TOLD by the authors' own Lean function (tested against real Go, not proved from fmt's source: count such statements apart). THE CARD IS WHAT COUNTS. Prove the row's statement (the work); the ties are given (YthfokciijcmhbaaGreatDoorTie.lean); close each card by the builder's one call (the guide's Derived/Test/ToyasCard.lean, 'card_holds'). Laid BY PROGRAM, IN A SANDBOX (cutbox-door.mjs). By AI agents, Wed Nov 11 2026. No macro, syntax, notation, axiom, sorry.
-/
import Derived.Test.YthfokciijcmhbaaGreatDoorRows
import GoSem.ClaimSeven
namespace Go.Proofs.YthfokciijcmhbaaGreatDoor
namespace Rows

/-- THE TIED CARD OF 'rostrumlaw06.AriesCommitted'. -/
def ariesCommittedCard : Claim7 := { stood := { row := ariesCommittedRow, standIns := [], harness := (true, "58985c868de8bc20c48b949c38d4c684fbc39ed841065638fb5bbb31788653af"), looks := false }, kinds := [], alts := [], laidByText := true, laidKinds := [.data], laidTests := true, laidLooks := .later }
def AriesCommittedCardSaid : Prop := Claim7.holds Tryz.pinned (.plain (OpenSpec.ofChange ariesCommittedSpec)) ariesCommittedCard

/-- THE TIED CARD OF 'rostrumlaw06.AriesAgain'. -/
def ariesAgainCard : Claim7 := { stood := { row := ariesAgainRow, standIns := [], harness := (true, "58985c868de8bc20c48b949c38d4c684fbc39ed841065638fb5bbb31788653af"), looks := false }, kinds := [], alts := [], laidByText := true, laidKinds := [.data], laidTests := true, laidLooks := .later }
def AriesAgainCardSaid : Prop := Claim7.holds Tryz.pinned (.plain (OpenSpec.ofChange ariesAgainSpec)) ariesAgainCard

/-- THE TIED CARD OF 'rostrumlaw06.AriesBack'. -/
def ariesBackCard : Claim7 := { stood := { row := ariesBackRow, standIns := [], harness := (true, "58985c868de8bc20c48b949c38d4c684fbc39ed841065638fb5bbb31788653af"), looks := false }, kinds := [], alts := [], laidByText := true, laidKinds := [.data], laidTests := true, laidLooks := .later }
def AriesBackCardSaid : Prop := Claim7.holds Tryz.pinned (.plain (OpenSpec.ofChange ariesBackSpec)) ariesBackCard

/-- THE TIED CARD OF 'rostrumlaw06.AriesLocks'. -/
def ariesLocksCard : Claim7 := { stood := { row := ariesLocksRow, standIns := [], harness := (true, "58985c868de8bc20c48b949c38d4c684fbc39ed841065638fb5bbb31788653af"), looks := false }, kinds := [], alts := [], laidByText := true, laidKinds := [.data], laidTests := true, laidLooks := .later }
def AriesLocksCardSaid : Prop := Claim7.holds Tryz.pinned (.plain (OpenSpec.ofChange ariesLocksSpec)) ariesLocksCard

/-- THE SECOND FORM's CARD OF 'rostrumlaw06.AriesCommitted'. -/
def ariesCommittedUptoCard : Claim7 := { stood := { row := ariesCommittedUptoRow, standIns := [], harness := (true, "58985c868de8bc20c48b949c38d4c684fbc39ed841065638fb5bbb31788653af"), looks := false }, kinds := [], alts := [], laidByText := true, laidKinds := [.data], laidTests := true, laidLooks := .later }
def AriesCommittedUptoCardSaid : Prop := Claim7.holds Tryz.pinned (.plain (OpenSpec.upto ariesCommittedSpec)) ariesCommittedUptoCard

/-- THE SECOND FORM's CARD OF 'rostrumlaw06.AriesAgain'. -/
def ariesAgainUptoCard : Claim7 := { stood := { row := ariesAgainUptoRow, standIns := [], harness := (true, "58985c868de8bc20c48b949c38d4c684fbc39ed841065638fb5bbb31788653af"), looks := false }, kinds := [], alts := [], laidByText := true, laidKinds := [.data], laidTests := true, laidLooks := .later }
def AriesAgainUptoCardSaid : Prop := Claim7.holds Tryz.pinned (.plain (OpenSpec.upto ariesAgainSpec)) ariesAgainUptoCard

/-- THE SECOND FORM's CARD OF 'rostrumlaw06.AriesBack'. -/
def ariesBackUptoCard : Claim7 := { stood := { row := ariesBackUptoRow, standIns := [], harness := (true, "58985c868de8bc20c48b949c38d4c684fbc39ed841065638fb5bbb31788653af"), looks := false }, kinds := [], alts := [], laidByText := true, laidKinds := [.data], laidTests := true, laidLooks := .later }
def AriesBackUptoCardSaid : Prop := Claim7.holds Tryz.pinned (.plain (OpenSpec.upto ariesBackSpec)) ariesBackUptoCard

/-- THE SECOND FORM's CARD OF 'rostrumlaw06.AriesLocks'. -/
def ariesLocksUptoCard : Claim7 := { stood := { row := ariesLocksUptoRow, standIns := [], harness := (true, "58985c868de8bc20c48b949c38d4c684fbc39ed841065638fb5bbb31788653af"), looks := false }, kinds := [], alts := [], laidByText := true, laidKinds := [.data], laidTests := true, laidLooks := .later }
def AriesLocksUptoCardSaid : Prop := Claim7.holds Tryz.pinned (.plain (OpenSpec.upto ariesLocksSpec)) ariesLocksUptoCard
end Rows
end Go.Proofs.YthfokciijcmhbaaGreatDoor
