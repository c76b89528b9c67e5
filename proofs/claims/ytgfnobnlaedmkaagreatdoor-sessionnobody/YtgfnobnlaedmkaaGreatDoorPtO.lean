/-
  What the cards of this seat share: a world for the witness in which the listed variables lie as they are listed.
-/
import Derived.Test.YtgfnobnlaedmkaaGreatDoorRows
import Derived.Test.YtgfnobnlaedmkaaGreatDoorProg
import Derived.ProofKit
import Derived.OpenShut
import Derived.ShutString
import Derived.ChangeOld
import Derived.SizedLaws
import Derived.Deep.DeepHandedRow
import Derived.Lib.LaidTab
import Derived.LaidSub
import Derived.Stop.LaidErr
namespace Go.Proofs.YtgfnobnlaedmkaaGreatDoor
open Go.ChangeShapes Go.WideShapes Go.ChangeAt Go.RowKit
set_option linter.unusedVariables false

theorem own : ownKnob Tryz.prog.godebug = none := by kernel_rfl
theorem laidOut : laidOutB Tryz.prog = true := by kernel_rfl
/-- A table's numbers as they lie in memory. -/
def cellsOfTab : DataW Unit → Array Value
  | .agg l => (l.map fun d => match d with | .lit (.int k z) => Value.int k z | _ => Value.bool false).toArray
  | _ => #[]
def layArr (d : DataW Unit) : Obj → Obj
  | .cells _ t frozen => .cells (cellsOfTab d) t frozen
  | o => o
def layErr (k : Nat) : Obj → Obj
  | .cells _ t frozen => .cells #[.iface 283 (.pointer (some ⟨k, 0, none⟩))] t frozen
  | o => o
/-- A world whose first blocks hold the tables, and the two errors (for the witness). -/
def layWorld (w : World) : World := { w with heap := (((((w.heap.modify 3 (layArr Rows.laid_internal_strconv_uint64pow10)).modify 5 (layArr Rows.laid_math_bits_deBruijn32tab)).modify 6 (layArr Rows.laid_math_bits_deBruijn64tab)).modify 2 (layArr Rows.laid_rostrum_wire_halves)).modify 1 (layErr 12)).modify 0 (layErr 13) }
def errS (l : List UInt8) : Obj := .cells #[.string ⟨l.toArray⟩] 285
def hold : Input := ⟨#[errS [118, 97, 108, 117, 101, 32, 111, 117, 116, 32, 111, 102, 32, 114, 97, 110, 103, 101], errS [105, 110, 118, 97, 108, 105, 100, 32, 115, 121, 110, 116, 97, 120]], #[], []⟩
end Go.Proofs.YtgfnobnlaedmkaaGreatDoor
