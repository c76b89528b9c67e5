/-
  A world that holds the library's two tables (for the cards' witnesses).
-/
import Derived.Test.YtfobiknbjijphaaDoorRows
import Derived.ProofKit
namespace Go.Proofs.YtfobiknbjijphaaDoor
open Go.RowKit
set_option linter.unusedVariables false

/-- A table's numbers as they lie in memory. -/
def cellsOfTab : DataW Unit → Array Value
  | .agg l => (l.flatMap fun d => match d with | .lit (.int k z) => [Value.int k z] | .agg m => m.map (fun e => match e with | .lit (.int k z) => Value.int k z | _ => Value.bool false) | _ => []).toArray
  | _ => #[]
def layArr (d : DataW Unit) : Obj → Obj
  | .cells _ t frozen => .cells (cellsOfTab d) t frozen
  | o => o
/-- A world whose first blocks hold the tables (for the witness). -/
def layWorld (w : World) : World := { w with heap := (w.heap.modify 1 (layArr Rows.laid_unicode_utf8_first)).modify 2 (layArr Rows.laid_unicode_utf8_acceptRanges) }
end Go.Proofs.YtfobiknbjijphaaDoor
