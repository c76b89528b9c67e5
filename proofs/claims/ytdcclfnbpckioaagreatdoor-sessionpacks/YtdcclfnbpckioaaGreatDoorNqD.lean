/-
  Which requests may be: the program's way, and the document's.
-/
import Derived.Test.YtdcclfnbpckioaaGreatDoorNqC
namespace Go.Proofs.YtdcclfnbpckioaaGreatDoor
open Go.RowKit
set_option linter.unusedVariables false

def mayB (id : ByteArray) (k se : Int) (t : ByteArray) : Bool := isIdB id && (decide (t.size ≤ 1200) && ((decide (k = 1) && decide (se = 0)) || (decide (k = 2) && (decide (1 ≤ se) && decide (se ≤ 9999)))))

theorem n_from1 (n m : Int) (w : World) : Calls Tryz.prog 51 #[.int .i64 n, .int .i64 m] w fun e w' => e = .returned (.bool (decide (1 ≤ n) && decide (n ≤ m))) ∧ w' = w := by
  by_cases h : 1 ≤ n
  · go_enter Tryz.func51, Tryz.ntmps51
    go_wp2
    go_ret
    exact ⟨by simp [h], rfl⟩
  · have h' : decide (1 ≤ n) = false := by simp; omega
    go_enter Tryz.func51, Tryz.ntmps51
    go_wp2
    go_ret
    exact ⟨by simp, rfl⟩
theorem eql_no {a b : Int} (h : ¬ a = b) : (a == b) = false := by simpa using h
end Go.Proofs.YtdcclfnbpckioaaGreatDoor
