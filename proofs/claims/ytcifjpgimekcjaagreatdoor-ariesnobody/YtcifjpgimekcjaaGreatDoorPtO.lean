/-
  What the cards of this seat share: a world for the witness in which the table of sums lies as it is listed.
-/
import Derived.Test.YtcifjpgimekcjaaGreatDoorRows
import Derived.Test.YtcifjpgimekcjaaGreatDoorProg
import Derived.ProofKit
import Derived.OpenShut
import Derived.ShutString
import Derived.ChangeOld
import Derived.SizedLaws
import Derived.Deep.DeepHandedRow
import Derived.Lib.LaidTab
import Derived.LaidSub
import Derived.Stop.LaidErr
namespace Go.Proofs.YtcifjpgimekcjaaGreatDoor
open Go.ChangeShapes Go.WideShapes Go.ChangeAt Go.RowKit
set_option linter.unusedVariables false

theorem own : ownKnob Tryz.prog.godebug = none := by kernel_rfl
theorem laidOut : laidOutB Tryz.prog = true := by kernel_rfl
/-- A table's numbers as they lie in memory. -/
def cellsOfTab : DataW Unit → Array Value
  | .agg l => (l.map fun d => match d with | .lit (.int k z) => Value.int k z | _ => Value.bool false).toArray
  | _ => #[]
def layArr (d : DataW Unit) : Obj → Obj
  | .cells _ t frozen => .cells (cellsOfTab d) t frozen
  | o => o
/-- A world whose first block holds the table (for the witness). -/
def layWorld (w : World) : World := { w with heap := w.heap.modify 0 (layArr Rows.laid_rostrum_wire_halves) }
def hold : Input := ⟨#[], #[], []⟩
end Go.Proofs.YtcifjpgimekcjaaGreatDoor
