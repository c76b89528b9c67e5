/-
  What a manager that no call made answers; a disk that no call made: its copy, log.Open, aries.Open.
-/
import Derived.Test.YtcifjpgimekcjaaGreatDoorFresh3
import Derived.Test.YtcifjpgimekcjaaGreatDoorHpM
namespace Go.Proofs.YtcifjpgimekcjaaGreatDoor
open Go.RowKit
set_option linter.unusedVariables false
set_option maxRecDepth 100000
set_option maxHeartbeats 1000000

def Miss (w : World) (P : Value) : Prop := P = .pointer none ∨ ∃ D, P = .pointer (some ⟨D, 0, none⟩) ∧ w.cell? ⟨D, 0, none⟩ = some (.pointer none)
theorem Miss.below {w w' : World} {P : Value} (h : Miss w P) (hb : Below w.heap.size w w') : Miss w' P := by
  rcases h with h | ⟨D, h1, h2⟩
  · exact .inl h
  · exact .inr ⟨D, h1, (hb.cell (p := ⟨D, 0, none⟩) (World.block_lt_of_cell? w _ h2)).trans h2⟩
theorem aMiss (P : Value) (w : World) (h : Miss w P) : Calls Tryz.prog 15 #[P] w fun e w' => e = .returned (.bool true) ∧ w' = w := by
  rcases h with rfl | ⟨D, rfl, h⟩
  all_goals
    go_enter Tryz.func15, Tryz.ntmps15
    go_wp2
    go_ret
    exact ⟨rfl, rfl⟩
theorem dMiss (P : Value) (w : World) (h : Miss w P) : Calls Tryz.prog 49 #[P] w fun e w' => e = .returned (.bool true) ∧ w' = w := by
  rcases h with rfl | ⟨D, rfl, h⟩
  all_goals
    go_enter Tryz.func49, Tryz.ntmps49
    go_wp2
    go_ret
    exact ⟨rfl, rfl⟩
theorem mBegin (P : Value)  (w : World) (h : Miss w P) : Calls Tryz.prog 4 #[P] w fun e w' => e = .returned (.tuple #[.int .i64 0, .int .i64 2]) ∧ w' = w := by
  have H : Hid (Miss w P) := h
  clear h
  go_enter Tryz.func4, Tryz.ntmps4
  go_wp2_with (go_at_call 15; refine (aMiss P w H.out).mono ?_; rintro e w1 ⟨rfl, hw⟩; rw [hw]; clear hw)
  go_ret2
  exact ⟨rfl, rfl⟩
theorem mRead (P : Value) (t p : Int) (w : World) (h : Miss w P) : Calls Tryz.prog 5 #[P, .int .i64 t, .int .i64 p] w fun e w' => e = .returned (.tuple #[.slice none 0 0, .int .i64 2]) ∧ w' = w := by
  have H : Hid (Miss w P) := h
  clear h
  go_enter Tryz.func5, Tryz.ntmps5
  go_wp2_with (go_at_call 15; refine (aMiss P w H.out).mono ?_; rintro e w1 ⟨rfl, hw⟩; rw [hw]; clear hw)
  go_ret2
  exact ⟨rfl, rfl⟩
theorem mWrite (P : Value) (t p o : Int) (v : Value) (w : World) (h : Miss w P) : Calls Tryz.prog 6 #[P, .int .i64 t, .int .i64 p, .int .i64 o, v] w fun e w' => e = .returned (.int .i64 2) ∧ w' = w := by
  have H : Hid (Miss w P) := h
  clear h
  go_enter Tryz.func6, Tryz.ntmps6
  go_wp2_with (go_at_call 15; refine (aMiss P w H.out).mono ?_; rintro e w1 ⟨rfl, hw⟩; rw [hw]; clear hw)
  go_ret
  exact ⟨rfl, rfl⟩
theorem mCommit (P : Value) (t : Int) (w : World) (h : Miss w P) : Calls Tryz.prog 7 #[P, .int .i64 t] w fun e w' => e = .returned (.int .i64 2) ∧ w' = w := by
  have H : Hid (Miss w P) := h
  clear h
  go_enter Tryz.func7, Tryz.ntmps7
  go_wp2_with (go_at_call 15; refine (aMiss P w H.out).mono ?_; rintro e w1 ⟨rfl, hw⟩; rw [hw]; clear hw)
  go_ret
  exact ⟨rfl, rfl⟩
theorem mAbort (P : Value) (t : Int) (w : World) (h : Miss w P) : Calls Tryz.prog 8 #[P, .int .i64 t] w fun e w' => e = .returned (.int .i64 2) ∧ w' = w := by
  have H : Hid (Miss w P) := h
  clear h
  go_enter Tryz.func8, Tryz.ntmps8
  go_wp2_with (go_at_call 15; refine (aMiss P w H.out).mono ?_; rintro e w1 ⟨rfl, hw⟩; rw [hw]; clear hw)
  go_ret
  exact ⟨rfl, rfl⟩
theorem mCheck (P : Value)  (w : World) (h : Miss w P) : Calls Tryz.prog 9 #[P] w fun e w' => e = .returned (.int .i64 2) ∧ w' = w := by
  have H : Hid (Miss w P) := h
  clear h
  go_enter Tryz.func9, Tryz.ntmps9
  go_wp2_with (go_at_call 15; refine (aMiss P w H.out).mono ?_; rintro e w1 ⟨rfl, hw⟩; rw [hw]; clear hw)
  go_ret
  exact ⟨rfl, rfl⟩
theorem mPages (P : Value)  (w : World) (h : Miss w P) : Calls Tryz.prog 10 #[P] w fun e w' => e = .returned (.int .i64 0) ∧ w' = w := by
  have H : Hid (Miss w P) := h
  clear h
  go_enter Tryz.func10, Tryz.ntmps10
  go_wp2_with (go_at_call 15; refine (aMiss P w H.out).mono ?_; rintro e w1 ⟨rfl, hw⟩; rw [hw]; clear hw)
  go_ret
  exact ⟨rfl, rfl⟩
theorem mRecords (P : Value)  (w : World) (h : Miss w P) : Calls Tryz.prog 11 #[P] w fun e w' => e = .returned (.int .i64 0) ∧ w' = w := by
  have H : Hid (Miss w P) := h
  clear h
  go_enter Tryz.func11, Tryz.ntmps11
  go_wp2_with (go_at_call 15; refine (aMiss P w H.out).mono ?_; rintro e w1 ⟨rfl, hw⟩; rw [hw]; clear hw)
  go_ret
  exact ⟨rfl, rfl⟩
theorem mActive (P : Value)  (w : World) (h : Miss w P) : Calls Tryz.prog 12 #[P] w fun e w' => e = .returned (.slice none 0 0) ∧ w' = w := by
  have H : Hid (Miss w P) := h
  clear h
  go_enter Tryz.func12, Tryz.ntmps12
  go_wp2_with (go_at_call 15; refine (aMiss P w H.out).mono ?_; rintro e w1 ⟨rfl, hw⟩; rw [hw]; clear hw)
  go_ret
  exact ⟨rfl, rfl⟩
theorem dCopyNo (P : Value)  (w : World) (h : Miss w P) : Calls Tryz.prog 28 #[P] w fun e w' => e = .returned (.pointer none) ∧ w' = w := by
  have H : Hid (Miss w P) := h
  clear h
  go_enter Tryz.func28, Tryz.ntmps28
  go_wp2_with (go_at_call 49; refine (dMiss P w H.out).mono ?_; rintro e w1 ⟨rfl, hw⟩; rw [hw]; clear hw)
  go_ret
  exact ⟨rfl, rfl⟩
theorem dSectNo (P : Value)  (w : World) (h : Miss w P) : Calls Tryz.prog 79 #[P] w fun e w' => e = .returned (.int .i64 0) ∧ w' = w := by
  have H : Hid (Miss w P) := h
  clear h
  go_enter Tryz.func79, Tryz.ntmps79
  go_wp2_with (go_at_call 49; refine (dMiss P w H.out).mono ?_; rintro e w1 ⟨rfl, hw⟩; rw [hw]; clear hw)
  go_ret
  exact ⟨rfl, rfl⟩
theorem lOpenNo (P : Value) (a b : Int) (w : World) (h : Miss w P) : Calls Tryz.prog 46 #[P, .int .i64 a, .int .i64 b] w fun e w' => e = .returned (.tuple #[.pointer none, .slice none 0 0, .int .i64 2]) ∧ w' = w := by
  have H : Hid (Miss w P) := h
  clear h
  go_enter Tryz.func46, Tryz.ntmps46
  go_wp2_with (go_at_call 79; refine (dSectNo P w H.out).mono ?_; rintro e w1 ⟨rfl, hw⟩; rw [hw]; clear hw)
  go_ret3
  exact ⟨rfl, rfl⟩
theorem overNo (P : Value) (a b c : Int) (w : World) (h : Miss w P) : Calls Tryz.prog 27 #[P, .int .i64 a, .int .i64 b, .int .i64 c] w fun e w' => e = .returned (.tuple #[.pointer none, .int .i64 2]) ∧ w' = w := by
  have H : Hid (Miss w P) := h
  clear h
  go_enter Tryz.func27, Tryz.ntmps27
  go_wp2_with (go_at_call 46; refine (lOpenNo P 0 a w H.out).mono ?_; rintro e w1 ⟨rfl, hw⟩; rw [hw]; clear hw)
  go_ret2
  exact ⟨rfl, rfl⟩
theorem openNo (P : Value) (a b c : Int) (w : World) (h : Miss w P) : Calls Tryz.prog 13 #[P, .int .i64 a, .int .i64 b, .int .i64 c] w fun e w' => e = .returned (.tuple #[.pointer none, .int .i64 2]) ∧ w' = w := by
  have H : Hid (Miss w P) := h
  have H0 := overNo (.pointer none) a b c w (.inl rfl)
  clear h
  go_enter Tryz.func13, Tryz.ntmps13
  go_wp2_with first
    | (go_at_call 28; refine (dCopyNo P w H.out).mono ?_; rintro e w1 ⟨rfl, hw⟩; rw [hw]; clear hw)
    | (go_at_call 27; refine H0.mono ?_; rintro e w1 ⟨rfl, hw⟩; rw [hw]; clear hw)
  go_ret2
  exact ⟨rfl, rfl⟩
end Go.Proofs.YtcifjpgimekcjaaGreatDoor
