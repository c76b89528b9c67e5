/-
  Code's small functions: inside, endsCode, isBare, roomIn, holds; the document's instr.
-/
import Derived.Test.YtpjgdpfpgpaenaaDoorGap
import Derived.Test.YtpjgdpfpgpaenaaDoorPuts
namespace Go.Proofs.YtpjgdpfpgpaenaaDoor
open Go.RowKit
set_option linter.unusedVariables false
set_option linter.unusedSimpArgs false

/-- An instruction that nothing need stand behind. -/
def endP (o : Int) : Prop := o = 14 ∨ o = 13 ∨ o = 7 ∨ o = 12
/-- An instruction that may be, among so many instructions, constants and names. -/
def opP (ni nd ns : Nat) (o a b : Int) : Prop :=
  (o = 1 ∧ 0 ≤ a ∧ a < nd ∧ b = 0) ∨ ((o = 3 ∨ o = 5 ∨ o = 6) ∧ 0 ≤ a ∧ a < ns ∧ b = 0) ∨ ((o = 2 ∨ o = 4) ∧ 0 ≤ a ∧ a ≤ 100 ∧ 0 ≤ b ∧ b ≤ 16) ∨
  ((o = 7 ∨ o = 8 ∨ o = 10) ∧ 0 ≤ a ∧ a < ni ∧ b = 0) ∨ (o = 9 ∧ 0 ≤ a ∧ a < ni ∧ 0 ≤ b ∧ b ≤ 33) ∨ (o = 12 ∧ 0 ≤ a ∧ a ≤ 255 ∧ b = 0) ∨ ((o = 11 ∨ o = 13 ∨ o = 14) ∧ a = 0 ∧ b = 0)
def bareP (o a b : Int) : Prop := (o = 11 ∨ o = 13 ∨ o = 14) ∧ a = 0 ∧ b = 0
theorem blw_al {w V : World} (h : Below w.heap.size w V) (o : Obj) : Below w.heap.size w (V.alloc o) := h.alloc h.size o
theorem c_inside (n c : Int) (w : World) : Calls Tryd.prog 33 #[.int .i64 n, .int .i64 c] w fun e w' => Ans e (0 ≤ n ∧ n < c) ∧ w' = w := by
  by_cases h0 : 0 ≤ n
  · by_cases h1 : n < c
    · go_enter Tryd.func33, Tryd.ntmps33
      go_wp2
      go_ret
      exact ⟨Ans.yes ⟨h0, h1⟩, rfl⟩
    · have d : ¬ (0 ≤ n ∧ n < c) := fun h => h1 h.2
      have D := hid d
      have D2 := hid h0
      clear d
      go_enter Tryd.func33, Tryd.ntmps33
      go_wp2
      go_ret
      exact ⟨Ans.no (fun h => D.out ⟨D2.out, by simpa using h⟩), rfl⟩
  · have d : ¬ (0 ≤ n ∧ n < c) := fun h => h0 h.1
    have D := hid d
    clear d
    go_enter Tryd.func33, Tryd.ntmps33
    go_wp2
    go_ret
    exact ⟨Ans.no D.out, rfl⟩
theorem c_ends (o a b : Int) (w : World) : Calls Tryd.prog 17 #[.agg #[.int .i64 o, .int .i64 a, .int .i64 b]] w fun e w' => Ans e (endP o) ∧ Hid (Below w.heap.size w w') := by
  have HB : Hid (∀ ob, Below w.heap.size w (w.alloc ob)) := fun ob => (Below.refl _ w).alloc (Nat.le_refl _) _
  go_enter Tryd.func17, Tryd.ntmps17
  go_wp2
  all_goals
    go_wp2
    go_ret
    simp only [beq_iff_eq, beq_eq_false_iff_ne, ne_eq] at *
    first
      | exact ⟨Ans.yes (by unfold endP; omega), HB.out _⟩
      | exact ⟨Ans.no (by unfold endP; omega), HB.out _⟩
/-- The table of bare instructions, as it lies in memory. -/
def bareCs : Array Value := #[.int .i64 11, .int .i64 0, .int .i64 0, .int .i64 13, .int .i64 0, .int .i64 0, .int .i64 14, .int .i64 0, .int .i64 0]
def Bare (w : World) : Prop := ∀ i, i < 9 → w.cell? ⟨0, i, none⟩ = bareCs[i]?
theorem Bare.below {w w' : World} (h : Bare w) (hb : Below w.heap.size w w') : Bare w' := fun i hi => by
  have h1 := h i hi
  have h2 : bareCs[i]? = some (bareCs[i]'hi) := Array.getElem?_eq_getElem hi
  exact (hb.cell (World.block_lt_of_cell? w _ (h1.trans h2))).trans h1
theorem bare_ix (w : World) : (Instr.index 63 (.agg #[.int .i64 11, .int .i64 0, .int .i64 0, .int .i64 13, .int .i64 0, .int .i64 0, .int .i64 14, .int .i64 0, .int .i64 0]) (.int .i64 0)).run Tryd.prog w = .ok (.agg #[.int .i64 11, .int .i64 0, .int .i64 0]) w ∧
    (Instr.index 63 (.agg #[.int .i64 11, .int .i64 0, .int .i64 0, .int .i64 13, .int .i64 0, .int .i64 0, .int .i64 14, .int .i64 0, .int .i64 0]) (.int .i64 1)).run Tryd.prog w = .ok (.agg #[.int .i64 13, .int .i64 0, .int .i64 0]) w ∧
    (Instr.index 63 (.agg #[.int .i64 11, .int .i64 0, .int .i64 0, .int .i64 13, .int .i64 0, .int .i64 0, .int .i64 14, .int .i64 0, .int .i64 0]) (.int .i64 2)).run Tryd.prog w = .ok (.agg #[.int .i64 14, .int .i64 0, .int .i64 0]) w := by
  refine ⟨?_, ?_, ?_⟩ <;> simp [Instr.index, run_underlying Tryd.underlying63, asIntOf, go_sem]
theorem c_bare (o a b : Int) (w : World) (ht : Bare w) : Calls Tryd.prog 19 #[.agg #[.int .i64 o, .int .i64 a, .int .i64 b]] w fun e w' => Ans e (bareP o a b) ∧ Hid (Below w.heap.size w w') := by
  have hb : Below w.heap.size w (w.alloc (.cells #[.int .i64 o, .int .i64 a, .int .i64 b] 40)) := (Below.refl _ w).alloc (Nat.le_refl _) _
  have htW := ht.below hb
  have t0 := htW 0 (by decide)
  have t1 := htW 1 (by decide)
  have t2 := htW 2 (by decide)
  have t3 := htW 3 (by decide)
  have t4 := htW 4 (by decide)
  have t5 := htW 5 (by decide)
  have t6 := htW 6 (by decide)
  have t7 := htW 7 (by decide)
  have t8 := htW 8 (by decide)
  simp only [bareCs, List.getElem?_toArray, List.getElem?_cons_zero, List.getElem?_cons_succ] at t0 t1 t2 t3 t4 t5 t6 t7 t8
  clear ht hb htW
  have x0 := fun w => (bare_ix w).1
  have x1 := fun w => (bare_ix w).2.1
  have x2 := fun w => (bare_ix w).2.2
  have hc : ((o == 11) = false ∧ (o == 13) = false ∧ (o == 14) = false) ∨ o = 11 ∨ o = 13 ∨ o = 14 := by
    simp only [beq_eq_false_iff_ne]; omega
  rcases hc with ⟨d1, d2, d3⟩ | rfl | rfl | rfl
  all_goals
    go_enter Tryd.func19, Tryd.ntmps19
    go_wp2
    refine wp_loop_rounds 4 ?_
    rw [rounds_succ]
    go_wp2
    all_goals (try (rw [rounds_succ]; go_wp2))
    all_goals (try (rw [rounds_succ]; go_wp2))
    all_goals (try (rw [rounds_succ]; go_wp2))
    all_goals
      go_ret
      simp only [beq_iff_eq, beq_eq_false_iff_ne, ne_eq] at *
      first
        | exact ⟨Ans.yes (by unfold bareP; omega), by repeat (first | exact Below.refl _ _ | refine blw_al ?_ _)⟩
        | exact ⟨Ans.no (by unfold bareP; omega), by repeat (first | exact Below.refl _ _ | refine blw_al ?_ _)⟩
end Go.Proofs.YtpjgdpfpgpaenaaDoor
