/-
  DERIVED. GIVEN WITH THE SEED: THE CARDS: each row of YtbpolfoagmehhaaDoorRows.lean that lists a variable, with what it lists TIED to the program's text (the seventh form; the later family's looks); each row that meets fmt, with fmt's text TOLD by the authors' own Lean function (tested against real Go, not proved from fmt's source: count such statements apart). THE CARD IS WHAT COUNTS. Prove the row's statement (the work); the ties are given (YtbpolfoagmehhaaDoorTie.lean); close each card by the builder's one call (the guide's Derived/Test/ToyasCard.lean, 'card_holds'). Laid BY PROGRAM, IN A SANDBOX (cutbox-door.mjs). By AI agents, Wed Nov 11 2026. No macro, syntax, notation, axiom, sorry.
-/
import Derived.Test.YtbpolfoagmehhaaDoorRows
import GoSem.ClaimSeven
namespace Go.Proofs.YtbpolfoagmehhaaDoor
namespace Rows

/-- THE TIED CARD OF 'rostrumlaw19.NetAsks'. -/
def netAsksCard : Claim7 := { stood := { row := netAsksRow, standIns := [], harness := (true, "adc2ddeea81db8f6ced24d200261b20af3690dd3f5e8c5e5cff7079ba7be7bda"), looks := false }, kinds := [], alts := [], laidByText := true, laidKinds := [.data], laidTests := true, laidLooks := .later }
def NetAsksCardSaid : Prop := Claim7.holds Tryd.pinned (.plain (OpenSpec.ofChange netAsksSpec)) netAsksCard

/-- THE TIED CARD OF 'rostrumlaw19.NetReplies'. -/
def netRepliesCard : Claim7 := { stood := { row := netRepliesRow, standIns := [], harness := (true, "adc2ddeea81db8f6ced24d200261b20af3690dd3f5e8c5e5cff7079ba7be7bda"), looks := false }, kinds := [], alts := [], laidByText := true, laidKinds := [.data], laidTests := true, laidLooks := .later }
def NetRepliesCardSaid : Prop := Claim7.holds Tryd.pinned (.plain (OpenSpec.ofChange netRepliesSpec)) netRepliesCard

/-- THE TIED CARD OF 'rostrumlaw19.NetBack'. -/
def netBackCard : Claim7 := { stood := { row := netBackRow, standIns := [], harness := (true, "adc2ddeea81db8f6ced24d200261b20af3690dd3f5e8c5e5cff7079ba7be7bda"), looks := false }, kinds := [], alts := [], laidByText := true, laidKinds := [.data], laidTests := true, laidLooks := .later }
def NetBackCardSaid : Prop := Claim7.holds Tryd.pinned (.plain (OpenSpec.ofChange netBackSpec)) netBackCard

/-- THE SECOND FORM's CARD OF 'rostrumlaw19.NetAsks'. -/
def netAsksUptoCard : Claim7 := { stood := { row := netAsksUptoRow, standIns := [], harness := (true, "adc2ddeea81db8f6ced24d200261b20af3690dd3f5e8c5e5cff7079ba7be7bda"), looks := false }, kinds := [], alts := [], laidByText := true, laidKinds := [.data], laidTests := true, laidLooks := .later }
def NetAsksUptoCardSaid : Prop := Claim7.holds Tryd.pinned (.plain (OpenSpec.upto netAsksSpec)) netAsksUptoCard

/-- THE SECOND FORM's CARD OF 'rostrumlaw19.NetReplies'. -/
def netRepliesUptoCard : Claim7 := { stood := { row := netRepliesUptoRow, standIns := [], harness := (true, "adc2ddeea81db8f6ced24d200261b20af3690dd3f5e8c5e5cff7079ba7be7bda"), looks := false }, kinds := [], alts := [], laidByText := true, laidKinds := [.data], laidTests := true, laidLooks := .later }
def NetRepliesUptoCardSaid : Prop := Claim7.holds Tryd.pinned (.plain (OpenSpec.upto netRepliesSpec)) netRepliesUptoCard

/-- THE SECOND FORM's CARD OF 'rostrumlaw19.NetBack'. -/
def netBackUptoCard : Claim7 := { stood := { row := netBackUptoRow, standIns := [], harness := (true, "adc2ddeea81db8f6ced24d200261b20af3690dd3f5e8c5e5cff7079ba7be7bda"), looks := false }, kinds := [], alts := [], laidByText := true, laidKinds := [.data], laidTests := true, laidLooks := .later }
def NetBackUptoCardSaid : Prop := Claim7.holds Tryd.pinned (.plain (OpenSpec.upto netBackSpec)) netBackUptoCard
end Rows
end Go.Proofs.YtbpolfoagmehhaaDoor
