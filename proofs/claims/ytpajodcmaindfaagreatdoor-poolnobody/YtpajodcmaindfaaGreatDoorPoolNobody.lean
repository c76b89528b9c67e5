/-
  The law PoolNobody: the walk.
-/
import Derived.Test.YtpajodcmaindfaaGreatDoorFresh3
namespace Go.Proofs.YtpajodcmaindfaaGreatDoor
open Go.RowKit
set_option linter.unusedVariables false

set_option maxHeartbeats 400000 in
theorem pNewNil (L : Value) (a b c : Int) (w : World) : Calls Tryz.prog 15 #[.pointer none, L, .int .i64 a, .int .i64 b, .int .i64 c] w fun e w' => e = .returned (.tuple #[.pointer none, .int .i64 2]) ∧ w' = w := by
  go_enter Tryz.func15, Tryz.ntmps15
  go_wp2
  go_ret2
  exact ⟨rfl, rfl⟩
set_option maxHeartbeats 400000 in
theorem pNewNo (D n : Nat) (hn : 1 ≤ n) (a b c : Int) (w : World) (hF : Fresh w D n) : Calls Tryz.prog 15 #[.pointer (some ⟨D, 0, none⟩), .pointer none, .int .i64 a, .int .i64 b, .int .i64 c] w fun e w' => e = .returned (.tuple #[.pointer none, .int .i64 2]) ∧ w' = w := by
  have g1 : ((n : Int) == 0) = false := by simp; omega
  have HF : Hid (Fresh w D n) := hF
  clear hF
  go_enter Tryz.func15, Tryz.ntmps15
  go_wp2_with fail
  refine (dSectors D n w HF.out).mono ?_
  rintro e w1 ⟨rfl, hw⟩
  obtain rfl : w = w1 := hw.symm
  clear hw
  go_wp2
  go_ret2
  exact ⟨rfl, rfl⟩

def Miss (w : World) (P : Value) : Prop := P = .pointer none ∨ ∃ D, P = .pointer (some ⟨D, 0, none⟩) ∧ w.cell? ⟨D, 0, none⟩ = some (.pointer none)
set_option maxHeartbeats 400000 in
theorem pMissing (P : Value) (w : World) (h : Miss w P) : Calls Tryz.prog 27 #[P] w fun e w' => e = .returned (.bool true) ∧ w' = w := by
  rcases h with rfl | ⟨D, rfl, h⟩
  · go_enter Tryz.func27, Tryz.ntmps27
    go_wp2
    go_ret
    exact ⟨rfl, rfl⟩
  · go_enter Tryz.func27, Tryz.ntmps27
    go_wp2
    go_ret
    exact ⟨rfl, rfl⟩
set_option maxHeartbeats 400000 in
theorem pGetNo (P : Value) (a : Int) (w : World) (h : Miss w P) : Calls Tryz.prog 5 #[P, .int .i64 a] w fun e w' => e = .returned (.tuple #[.slice none 0 0, .int .i64 0, .int .i64 2]) ∧ w' = w := by
  have H : Hid (Miss w P) := h
  clear h
  go_enter Tryz.func5, Tryz.ntmps5
  go_wp2_with fail
  refine (pMissing P w H.out).mono ?_
  rintro e w1 ⟨rfl, hw⟩
  obtain rfl : w = w1 := hw.symm
  clear hw
  go_wp2
  go_ret3
  exact ⟨rfl, rfl⟩
set_option maxHeartbeats 400000 in
theorem pPutNo (P : Value) (a b : Int) (v : Value) (w : World) (h : Miss w P) : Calls Tryz.prog 6 #[P, .int .i64 a, .int .i64 b, v] w fun e w' => e = .returned (.int .i64 2) ∧ w' = w := by
  have H : Hid (Miss w P) := h
  clear h
  go_enter Tryz.func6, Tryz.ntmps6
  go_wp2_with fail
  refine (pMissing P w H.out).mono ?_
  rintro e w1 ⟨rfl, hw⟩
  obtain rfl : w = w1 := hw.symm
  clear hw
  go_wp2
  go_ret
  exact ⟨rfl, rfl⟩
set_option maxHeartbeats 400000 in
theorem pPinNo (P : Value) (a : Int) (w : World) (h : Miss w P) : Calls Tryz.prog 7 #[P, .int .i64 a] w fun e w' => e = .returned (.int .i64 2) ∧ w' = w := by
  have H : Hid (Miss w P) := h
  clear h
  go_enter Tryz.func7, Tryz.ntmps7
  go_wp2_with fail
  refine (pMissing P w H.out).mono ?_
  rintro e w1 ⟨rfl, hw⟩
  obtain rfl : w = w1 := hw.symm
  clear hw
  go_wp2
  go_ret
  exact ⟨rfl, rfl⟩
set_option maxHeartbeats 400000 in
theorem pUnpinNo (P : Value) (a : Int) (w : World) (h : Miss w P) : Calls Tryz.prog 8 #[P, .int .i64 a] w fun e w' => e = .returned (.int .i64 2) ∧ w' = w := by
  have H : Hid (Miss w P) := h
  clear h
  go_enter Tryz.func8, Tryz.ntmps8
  go_wp2_with fail
  refine (pMissing P w H.out).mono ?_
  rintro e w1 ⟨rfl, hw⟩
  obtain rfl : w = w1 := hw.symm
  clear hw
  go_wp2
  go_ret
  exact ⟨rfl, rfl⟩
set_option maxHeartbeats 400000 in
theorem pFlushNo (P : Value) (a : Int) (w : World) (h : Miss w P) : Calls Tryz.prog 9 #[P, .int .i64 a] w fun e w' => e = .returned (.int .i64 2) ∧ w' = w := by
  have H : Hid (Miss w P) := h
  clear h
  go_enter Tryz.func9, Tryz.ntmps9
  go_wp2_with fail
  refine (pMissing P w H.out).mono ?_
  rintro e w1 ⟨rfl, hw⟩
  obtain rfl : w = w1 := hw.symm
  clear hw
  go_wp2
  go_ret
  exact ⟨rfl, rfl⟩
set_option maxHeartbeats 400000 in
theorem pAllNo (P : Value) (w : World) (h : Miss w P) : Calls Tryz.prog 10 #[P] w fun e w' => e = .returned (.int .i64 2) ∧ w' = w := by
  have H : Hid (Miss w P) := h
  clear h
  go_enter Tryz.func10, Tryz.ntmps10
  go_wp2_with fail
  refine (pMissing P w H.out).mono ?_
  rintro e w1 ⟨rfl, hw⟩
  obtain rfl : w = w1 := hw.symm
  clear hw
  go_wp2
  go_ret
  exact ⟨rfl, rfl⟩
set_option maxHeartbeats 400000 in
theorem pTableNo (P : Value) (w : World) (h : Miss w P) : Calls Tryz.prog 11 #[P] w fun e w' => e = .returned (.slice none 0 0) ∧ w' = w := by
  have H : Hid (Miss w P) := h
  clear h
  go_enter Tryz.func11, Tryz.ntmps11
  go_wp2_with fail
  refine (pMissing P w H.out).mono ?_
  rintro e w1 ⟨rfl, hw⟩
  obtain rfl : w = w1 := hw.symm
  clear hw
  go_wp2
  go_ret
  exact ⟨rfl, rfl⟩
set_option maxHeartbeats 400000 in
theorem pHeldNo (P : Value) (w : World) (h : Miss w P) : Calls Tryz.prog 12 #[P] w fun e w' => e = .returned (.slice none 0 0) ∧ w' = w := by
  have H : Hid (Miss w P) := h
  clear h
  go_enter Tryz.func12, Tryz.ntmps12
  go_wp2_with fail
  refine (pMissing P w H.out).mono ?_
  rintro e w1 ⟨rfl, hw⟩
  obtain rfl : w = w1 := hw.symm
  clear hw
  go_wp2
  go_ret
  exact ⟨rfl, rfl⟩
set_option maxRecDepth 100000 in
set_option maxHeartbeats 2000000 in
theorem poolNobody_walk (a : Int) (w : World) :
    Calls Tryz.prog 3 #[.int .i64 a] w fun e w' => e = .returned (.bool true) ∧ Below w.heap.size w w' := by
  obtain ⟨MB, hMB⟩ : ∃ MB, madeCells #[.int .u8 0] 112 = MB := ⟨_, rfl⟩
  have hmb : ∀ w : World, (Instr.makeSlice 27 (.int .i64 112) (.int .i64 112)).run Tryz.prog w = .ok (.slice (some ⟨w.heap.size, 0, none⟩) 112 112) (w.alloc (.cells MB 5)) := fun w => by
    rw [← hMB]
    exact run_make_row' (P := Tryz.prog) 27 5 (.int .u8 0) 1 Tryz.underlying27 info5 rfl .i64 .i64 112 (by omega) (by omega) w
  clear hMB
  go_enter Tryz.func3, Tryz.ntmps3
  go_wp2
  refine wp_loop_rounds 3 ?_
  rw [rounds_succ]
  go_wp2_with fail
  refine (pGetNo _ a _ (.inl rfl)).mono ?_
  rintro e w1 ⟨rfl, rfl⟩
  go_wp2_with fail
  refine (pPutNo _ a 1 _ _ (.inl rfl)).mono ?_
  rintro e w1 ⟨rfl, rfl⟩
  go_wp2_with fail
  refine (pPinNo _ a _ (.inl rfl)).mono ?_
  rintro e w1 ⟨rfl, rfl⟩
  go_wp2_with fail
  refine (pUnpinNo _ a _ (.inl rfl)).mono ?_
  rintro e w1 ⟨rfl, rfl⟩
  go_wp2_with fail
  refine (pFlushNo _ a _ (.inl rfl)).mono ?_
  rintro e w1 ⟨rfl, rfl⟩
  go_wp2_with fail
  refine (pAllNo _ _ (.inl rfl)).mono ?_
  rintro e w1 ⟨rfl, rfl⟩
  go_wp2_with fail
  refine (pTableNo _ _ (.inl rfl)).mono ?_
  rintro e w1 ⟨rfl, rfl⟩
  go_wp2_with fail
  refine (pHeldNo _ _ (.inl rfl)).mono ?_
  rintro e w1 ⟨rfl, rfl⟩
  go_wp2
  rw [rounds_succ]
  go_wp2_with fail
  refine (pGetNo _ a _ (.inr ⟨_, rfl, by first | go_simp | simp⟩)).mono ?_
  rintro e w1 ⟨rfl, rfl⟩
  go_wp2_with fail
  refine (pPutNo _ a 1 _ _ (.inr ⟨_, rfl, by first | go_simp | simp⟩)).mono ?_
  rintro e w1 ⟨rfl, rfl⟩
  go_wp2_with fail
  refine (pPinNo _ a _ (.inr ⟨_, rfl, by first | go_simp | simp⟩)).mono ?_
  rintro e w1 ⟨rfl, rfl⟩
  go_wp2_with fail
  refine (pUnpinNo _ a _ (.inr ⟨_, rfl, by first | go_simp | simp⟩)).mono ?_
  rintro e w1 ⟨rfl, rfl⟩
  go_wp2_with fail
  refine (pFlushNo _ a _ (.inr ⟨_, rfl, by first | go_simp | simp⟩)).mono ?_
  rintro e w1 ⟨rfl, rfl⟩
  go_wp2_with fail
  refine (pAllNo _ _ (.inr ⟨_, rfl, by first | go_simp | simp⟩)).mono ?_
  rintro e w1 ⟨rfl, rfl⟩
  go_wp2_with fail
  refine (pTableNo _ _ (.inr ⟨_, rfl, by first | go_simp | simp⟩)).mono ?_
  rintro e w1 ⟨rfl, rfl⟩
  go_wp2_with fail
  refine (pHeldNo _ _ (.inr ⟨_, rfl, by first | go_simp | simp⟩)).mono ?_
  rintro e w1 ⟨rfl, rfl⟩
  go_wp2
  rw [rounds_succ]
  go_wp2_with fail
  refine (newDisk 9 (by omega) (by omega) _).mono ?_
  rintro e w2 ⟨D, rfl, hF, hD1, hD2, hb⟩
  have hbA : Below w.heap.size w w2 := Below.trans (by repeat (first | exact Below.refl _ _ | refine Below.alloc ?_ (by simp <;> omega) _)) (hb.mono (by simp <;> omega))
  have hs := hbA.size
  have hO0 := openZ D 9 0 2 (by omega) (by omega) (by omega) w2 hF
  have hO : Hid (Calls Tryz.prog 14 #[.pointer (some ⟨D, 0, none⟩), .int .i64 0, .int .i64 2] w2 fun e w' => ∃ L T, e = .returned (.tuple #[.pointer (some ⟨L, 0, none⟩), .slice none 0 0, .int .i64 0]) ∧ LogAt w' L T D 0 2 1 0 0 0 (.slice none 0 0) ∧ w2.heap.size ≤ L ∧ w2.heap.size ≤ T ∧ L ≠ T ∧ Below w2.heap.size w2 w') := hO0
  have HF : Hid (Fresh w2 D 9) := hF
  clear hb hD1 hD2 hO0 hF
  go_wp2_with fail
  refine hO.out.mono ?_
  rintro e w3 ⟨L, T, rfl, hL, q1, q2, q3, hb3⟩
  have hfin := hbA.trans (hb3.mono hs)
  have HF3 : Hid (Fresh w3 D 9) := HF.out.below hb3 (Nat.le_refl _)
  clear hO hb3 hbA q1 q2 q3 hL HF
  go_wp2_with fail
  refine (pNewNil _ 2 3 4 w3).mono ?_
  rintro e w4 ⟨rfl, hw⟩
  obtain rfl : w3 = w4 := hw.symm
  clear hw
  go_wp2_with fail
  refine (pNewNo D 9 (by omega) 2 3 4 w3 HF3.out).mono ?_
  rintro e w4 ⟨rfl, hw⟩
  obtain rfl : w3 = w4 := hw.symm
  clear hw
  go_wp2
  go_ret
  exact ⟨rfl, hfin⟩
end Go.Proofs.YtpajodcmaindfaaGreatDoor
