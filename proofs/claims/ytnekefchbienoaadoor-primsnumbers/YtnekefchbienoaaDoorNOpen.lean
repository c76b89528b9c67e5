/-
  What the number cards of this seat share: the laid tables and sentinels, a world for the witness.
-/
import Derived.Test.YtnekefchbienoaaDoorRows
import Derived.Test.YtnekefchbienoaaDoorNTexts
import Derived.ProofKit
import Derived.OpenShut
import Derived.ShutString
import Derived.ChangeOld
import Derived.SizedLaws
import Derived.Deep.DeepHandedRow
import Derived.Lib.LaidTab
import Derived.LaidSub
import Derived.Stop.LaidErr
namespace Go.Proofs.YtnekefchbienoaaDoor
open Go.ChangeShapes Go.WideShapes Go.ChangeAt Go.RowKit
set_option linter.unusedVariables false

theorem own : ownKnob Tryd.prog.godebug = none := by kernel_rfl
theorem laidOut : laidOutB Tryd.prog = true := by kernel_rfl
theorem gPowType : (Tryd.prog.globals[2]?).map (·.type) = some 135 := by kernel_rfl
theorem cellsP : Tryd.prog.cellsOf 135 = 20 := by kernel_rfl
theorem cellsU : Tryd.prog.cellsOf 106 = 1 := by kernel_rfl
theorem cells9 : Tryd.prog.cellsOf 9 = 1 := by kernel_rfl
theorem powData : (Rows.laid_internal_strconv_uint64pow10 : DataW Unit) = Lib.tabData .u64 Lib.pow10Tab := by kernel_rfl
/-- The library's table of powers of ten, laid first. -/
theorem pow_of {W : World} {rest : List (String × DataW Unit)} (h : laidMet Tryd.prog (("internal/strconv.uint64pow10", Rows.laid_internal_strconv_uint64pow10) :: rest) W) : Lib.TabIs Tryd.prog W "internal/strconv.uint64pow10" .u64 Lib.pow10Tab := by
  rw [powData] at h
  exact Lib.tabIs_of_head gPow gPowType Tryd.underlying135 Tryd.underlying106 cellsU cellsP h
theorem reach_string {H : Type} {ts : List TypeId} {ds : List (DataW H)} {j : Nat} {s : ByteArray} (hsz : (DataW.weightsEach Tryd.prog ts ds).all (· ≤ reachBytes) = true) (h1 : ts[j]? = some 9) (h2 : ds[j]? = some (.lit (.string s.data.toList))) : s.size ≤ 281474976710656 := by
  have h3 := sized_string hsz (j := j) (t := 9) h1 h2
  have h2 := reachBytes_lt
  have e1 : s.size = s.data.size := rfl
  have e2 : s.data.toList.length = s.data.size := Array.length_toList
  have e3 : (2 : Nat) ^ 47 = 140737488355328 := by decide
  omega

/-- A table's numbers as they lie in memory. -/
def cellsOfTab : DataW Unit → Array Value
  | .agg l => (l.map fun d => match d with | .lit (.int k z) => Value.int k z | _ => Value.bool false).toArray
  | _ => #[]
def layArr (d : DataW Unit) : Obj → Obj
  | .cells _ t frozen => .cells (cellsOfTab d) t frozen
  | o => o
def layErr (k : Nat) : Obj → Obj
  | .cells _ t frozen => .cells #[.iface 127 (.pointer (some ⟨k, 0, none⟩))] t frozen
  | o => o
/-- A world whose first blocks hold the tables (for the witness). -/
def layWorld (w : World) : World := { w with heap := ((w.heap.modify 2 (layArr Rows.laid_internal_strconv_uint64pow10)).modify 3 (layArr Rows.laid_math_bits_deBruijn32tab)).modify 4 (layArr Rows.laid_math_bits_deBruijn64tab) }
end Go.Proofs.YtnekefchbienoaaDoor
