/-
  prims.table tells the table's cells.
-/
import Derived.Test.YtkjnigbnbfjdhaaGreatDoorPtA
namespace Go.Proofs.YtkjnigbnbfjdhaaGreatDoor
open Go.RowKit
set_option linter.unusedVariables false

set_option maxRecDepth 1000000 in
set_option maxHeartbeats 20000000 in
theorem p_table (w : World) : Calls Tryz.prog 21 #[] w fun r w' => r = .returned (.agg ptab) ∧ Below w.heap.size w w' := by
  have hb : (w.alloc (Obj.cells Tryz.zeroCells60 60)).heap[w.heap.size]? = some (.cells Tryz.zeroCells60 60 (0, 0)) := heap_alloc_at _ _ _ rfl
  have bo : Below w.heap.size w (w.alloc (Obj.cells Tryz.zeroCells60 60)) := (Below.refl _ w).alloc (Nat.le_refl _) _
  go_enter Tryz.func21, Tryz.ntmps21
  go_wp2
  refine upon_store hb (by kernel_rfl) (fun u hu => ?_) (fun w1 h1 h2 => ?_)
  · exact (List.all_eq_true (p := fun u : Value => u.oneCell')).1 (by kernel_rfl) u hu
  · have h3 : w1.heap[w.heap.size]? = some (.cells ptab 60 (0, 0)) := h1.trans (congrArg (fun x => some (Obj.cells x 60 (0, 0))) (by kernel_rfl))
    have h4 : Below w.heap.size w w1 := bo.trans (h2.below (fun k hk => by omega) bo.size)
    clear h1 h2 hb bo
    go_wp2
    refine bodyPost_ret (v := .agg ptab) ?_ rfl ⟨rfl, h4⟩
    exact results_cell Tryz.results21 rfl (by simp [go_sem]) (by simp [go_sem]) (load_block h3 141 ptab_size.symm)
end Go.Proofs.YtkjnigbnbfjdhaaGreatDoor
