/-
  DERIVED. GIVEN WITH THE SEED: THE CARDS: each row of YtmpilcamnhlalaaDoorRows.lean that lists a variable, with what it lists TIED to the program's text (the seventh form; the later family's looks); each row that meets fmt, with fmt's text TOLD by the authors' own Lean function (tested against real Go, not proved from fmt's source: count such statements apart). THE CARD IS WHAT COUNTS. Prove the row's statement (the work); the ties are given (YtmpilcamnhlalaaDoorTie.lean); close each card by the builder's one call (the guide's Derived/Test/ToyasCard.lean, 'card_holds'). Laid BY PROGRAM, IN A SANDBOX (cutbox-door.mjs). By AI agents, Wed Nov 11 2026. No macro, syntax, notation, axiom, sorry.
-/
import Derived.Test.YtmpilcamnhlalaaDoorRows
import GoSem.ClaimSeven
namespace Go.Proofs.YtmpilcamnhlalaaDoor
namespace Rows

/-- THE TIED CARD OF 'rostrumlaw14.HeapChain'. -/
def heapChainCard : Claim7 := { stood := { row := heapChainRow, standIns := [], harness := (true, "68317164dd39781526ef5ea2d4e72fad312632752631c211b32e7923caff9347"), looks := false }, kinds := [], alts := [], laidByText := true, laidKinds := [.data], laidTests := true, laidLooks := .later }
def HeapChainCardSaid : Prop := Claim7.holds Tryd.pinned (.plain (OpenSpec.ofChange heapChainSpec)) heapChainCard

/-- THE TIED CARD OF 'rostrumlaw14.HeapNobody'. -/
def heapNobodyCard : Claim7 := { stood := { row := heapNobodyRow, standIns := [], harness := (true, "68317164dd39781526ef5ea2d4e72fad312632752631c211b32e7923caff9347"), looks := false }, kinds := [], alts := [], laidByText := true, laidKinds := [.data], laidTests := true, laidLooks := .later }
def HeapNobodyCardSaid : Prop := Claim7.holds Tryd.pinned (.plain (OpenSpec.ofChange heapNobodySpec)) heapNobodyCard

/-- THE SECOND FORM's CARD OF 'rostrumlaw14.HeapChain'. -/
def heapChainUptoCard : Claim7 := { stood := { row := heapChainUptoRow, standIns := [], harness := (true, "68317164dd39781526ef5ea2d4e72fad312632752631c211b32e7923caff9347"), looks := false }, kinds := [], alts := [], laidByText := true, laidKinds := [.data], laidTests := true, laidLooks := .later }
def HeapChainUptoCardSaid : Prop := Claim7.holds Tryd.pinned (.plain (OpenSpec.upto heapChainSpec)) heapChainUptoCard

/-- THE SECOND FORM's CARD OF 'rostrumlaw14.HeapNobody'. -/
def heapNobodyUptoCard : Claim7 := { stood := { row := heapNobodyUptoRow, standIns := [], harness := (true, "68317164dd39781526ef5ea2d4e72fad312632752631c211b32e7923caff9347"), looks := false }, kinds := [], alts := [], laidByText := true, laidKinds := [.data], laidTests := true, laidLooks := .later }
def HeapNobodyUptoCardSaid : Prop := Claim7.holds Tryd.pinned (.plain (OpenSpec.upto heapNobodySpec)) heapNobodyUptoCard
end Rows
end Go.Proofs.YtmpilcamnhlalaaDoor
