/-
  The table of widths as it is laid; how numbers that are handed in are read.
-/
import Derived.Test.YtmpilcamnhlalaaDoorRows
import Derived.Test.YtmpilcamnhlalaaDoorHpN
import Derived.ProofKit
import Derived.OpenShut
import Derived.ShutString
import Derived.ChangeOld
import Derived.SizedLaws
import Derived.Deep.DeepHandedRow
import Derived.Lib.LaidTab
namespace Go.Proofs.YtmpilcamnhlalaaDoor
open Go.ChangeShapes Go.WideShapes Go.ChangeAt Go.RowKit
set_option linter.unusedVariables false

theorem own : ownKnob Tryd.prog.godebug = none := by kernel_rfl
theorem laidOut : laidOutB Tryd.prog = true := by kernel_rfl
theorem gTab : Tryd.prog.globalNamed "rostrum/heap.widths" = some 0 := by kernel_rfl
theorem gTabType : (Tryd.prog.globals[0]?).map (·.type) = some 68 := by kernel_rfl
theorem cellsT : Tryd.prog.cellsOf 68 = 9 := by kernel_rfl
theorem cellsI : Tryd.prog.cellsOf 3 = 1 := by kernel_rfl
def tabI : List Int := [0, 2, 0, 0, 0, 0, 3, 2, 4]
theorem table {W : World} (h : laidMetH Tryd.prog [("rostrum/heap.widths", Rows.laid_rostrum_heap_widths)] W) : W.cell? ⟨0, 1, none⟩ = some (.int .i64 2) := by
  have hT : Lib.TabIs Tryd.prog W "rostrum/heap.widths" .i64 tabI := Lib.tabIs_of_head (rest := []) gTab gTabType Tryd.underlying68 Tryd.underlying3 cellsI cellsT h
  have hc := hT.cell gTab 1 (by decide)
  rw [hc]
  rfl
/-- A block that holds the table. -/
def layTab : Obj → Obj
  | .cells _ t frozen => .cells (tabI.map (Value.int .i64)).toArray t frozen
  | o => o
/-- A world whose first block holds the table (for the witness). -/
def layWorld (w : World) : World := { w with heap := w.heap.modify 0 layTab }
end Go.Proofs.YtmpilcamnhlalaaDoor
