/-
  Words for memory: what stays where other blocks change (Part), blocks of cells, a row of one's own.
-/
import Derived.WalkKit
import Derived.Deep.QuietTactic
import Derived.Test.YtnaobkpncfbnaaaGreatDoorProg
import Derived.Test.YtnaobkpncfbnaaaGreatDoorLogO
import Derived.Test.YtnaobkpncfbnaaaGreatDoorDec
import Derived.WalkLawsBesides
import Derived.WalkSpells
import Derived.Laws.AppendOwnNone
import Derived.Deep.RegionWith
import Derived.BigQuiet
import Derived.BigRegion
import Derived.Deep.OwnRows
import Derived.Maps.AppendAt
import Derived.OwnWalk
import Derived.Deep.RegionHeld
import Derived.Deep.RegionHeld2
namespace Go.Proofs.YtnaobkpncfbnaaaGreatDoor
open Go.RowKit
set_option linter.unusedVariables false

theorem heap_setCell_same (w : World) (T i : Nat) (cs : Array Value) (t : TypeId) (v : Value) (h : w.heap[T]? = some (.cells cs t (0, 0))) : (w.setCell ⟨T, i, none⟩ v).heap[T]? = some (.cells (cs.setIfInBounds i v) t (0, 0)) := by
  simp [World.setCell, Array.getElem?_modify, h]
end Go.Proofs.YtnaobkpncfbnaaaGreatDoor
