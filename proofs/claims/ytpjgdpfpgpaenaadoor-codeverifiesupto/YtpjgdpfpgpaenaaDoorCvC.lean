/-
  The document's instr.
-/
import Derived.Test.YtpjgdpfpgpaenaaDoorCvB
namespace Go.Proofs.YtpjgdpfpgpaenaaDoor
open Go.RowKit
set_option linter.unusedVariables false
set_option linter.unusedSimpArgs false

set_option maxRecDepth 100000 in
set_option maxHeartbeats 4000000 in
theorem x_instr (ai ad an : Option Addr) (ni nd ns ci cd cn : Nat) (o a b : Int) (w : World) : Calls Tryd.prog 25 #[.agg #[.slice ai ni ci, .slice ad nd cd, .slice an ns cn], .agg #[.int .i64 o, .int .i64 a, .int .i64 b]] w fun e w' => Ans e (opP ni nd ns o a b) ∧ Hid (Below w.heap.size w w') := by
  have hc : o = 1 ∨ o = 2 ∨ o = 3 ∨ o = 4 ∨ o = 5 ∨ o = 6 ∨ o = 7 ∨ o = 8 ∨ o = 9 ∨ o = 10 ∨ o = 11 ∨ o = 12 ∨ o = 13 ∨ o = 14 ∨ ((o == 1) = false ∧ (o == 2) = false ∧ (o == 3) = false ∧ (o == 4) = false ∧ (o == 5) = false ∧ (o == 6) = false ∧ (o == 7) = false ∧ (o == 8) = false ∧ (o == 9) = false ∧ (o == 10) = false ∧ (o == 11) = false ∧ (o == 12) = false ∧ (o == 13) = false ∧ (o == 14) = false) := by
    simp only [beq_eq_false_iff_ne]; omega
  rcases hc with rfl | rfl | rfl | rfl | rfl | rfl | rfl | rfl | rfl | rfl | rfl | rfl | rfl | rfl | ⟨d1, d2, d3, d4, d5, d6, d7, d8, d9, d10, d11, d12, d13, d14⟩
  all_goals
    go_enter Tryd.func25, Tryd.ntmps25
    go_wp2
    all_goals
      go_ret
      refine ⟨⟨_, rfl, ?_⟩, ?_⟩
      · try simp only [beq_eq_false_iff_ne, ne_eq] at *
        try simp only [beq_iff_eq, decide_eq_true_eq, true_iff, Bool.false_eq_true, false_iff, Bool.and_eq_true]
        unfold opP
        omega
      · show Below _ _ _
        repeat (first | exact Below.refl _ _ | refine blw_al ?_ _)
end Go.Proofs.YtpjgdpfpgpaenaaDoor
