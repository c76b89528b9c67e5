/-
  The law LogNobody: the walk.
-/
import Derived.Test.YtenpdjcbbleghacDoorFresh3
namespace Go.Proofs.YtenpdjcbbleghacDoor
open Go.RowKit
set_option linter.unusedVariables false

set_option maxHeartbeats 400000 in
theorem openNil (a b : Int) (w : World) : Calls Tryd.prog 27 #[.pointer none, .int .i64 a, .int .i64 b] w fun e w' => e = .returned (.tuple #[.pointer none, .slice none 0 0, .int .i64 2]) ∧ w' = w := by
  go_enter Tryd.func27, Tryd.ntmps27
  go_wp2
  go_ret3
  exact ⟨rfl, rfl⟩
set_option maxHeartbeats 400000 in
theorem openEmpty (D : Nat) (a b : Int) (w : World) (h : w.cell? ⟨D, 0, none⟩ = some (.pointer none)) : Calls Tryd.prog 27 #[.pointer (some ⟨D, 0, none⟩), .int .i64 a, .int .i64 b] w fun e w' => e = .returned (.tuple #[.pointer none, .slice none 0 0, .int .i64 2]) ∧ w' = w := by
  go_enter Tryd.func27, Tryd.ntmps27
  go_wp2
  go_ret3
  exact ⟨rfl, rfl⟩

set_option maxHeartbeats 400000 in
theorem lFirst (L T : Nat) (z : Int) (w : World) (h0 : w.cell? ⟨L, 0, none⟩ = some (.pointer (some ⟨T, 0, none⟩))) (h3 : w.cell? ⟨T, 3, none⟩ = some (.int .i64 z)) :
    Calls Tryd.prog 24 #[.pointer (some ⟨L, 0, none⟩)] w fun e w' => e = .returned (.int .i64 z) ∧ w' = w := by
  go_enter Tryd.func24, Tryd.ntmps24
  go_wp2
  go_ret
  exact ⟨rfl, rfl⟩
set_option maxHeartbeats 400000 in
theorem lMissing (L T : Nat) (w : World) (h0 : w.cell? ⟨L, 0, none⟩ = some (.pointer (some ⟨T, 0, none⟩))) : Calls Tryd.prog 37 #[.pointer (some ⟨L, 0, none⟩)] w fun e w' => e = .returned (.bool false) ∧ w' = w := by
  go_enter Tryd.func37, Tryd.ntmps37
  go_wp2
  go_ret
  exact ⟨rfl, rfl⟩
set_option maxHeartbeats 400000 in
theorem lRoom (L T s p t : Nat) (c : Nat) (a : Option Addr) (w : World) (hs : s ≤ 4096) (hp : p ≤ 4096) (ht : t ≤ 1000000) (h0 : w.cell? ⟨L, 0, none⟩ = some (.pointer (some ⟨T, 0, none⟩))) (h2 : w.cell? ⟨T, 2, none⟩ = some (.int .i64 (s : Int))) (h6 : w.cell? ⟨T, 6, none⟩ = some (.int .i64 (p : Int))) (h7 : w.cell? ⟨T, 7, none⟩ = some (.slice a t c)) :
    Calls Tryd.prog 26 #[.pointer (some ⟨L, 0, none⟩)] w fun e w' => e = .returned (.int .i64 (((s : Int) - p) * 112 - t)) ∧ ∃ q, w' = w.drewN q := by
  go_enter Tryd.func26, Tryd.ntmps26
  go_wp2_with fail
  refine (lMissing L T w h0).mono ?_
  rintro e w1 ⟨rfl, hw⟩
  obtain rfl : w = w1 := hw.symm
  clear hw
  go_wp2_with fail
  go_quiet (fail)
  go_wp2
  go_ret
  exact ⟨rfl, _, rfl⟩

set_option maxRecDepth 100000 in
set_option maxHeartbeats 2000000 in
theorem nobody_walk (a b : Int) (w : World) :
    Calls Tryd.prog 6 #[.int .i64 a, .int .i64 b] w fun e w' => e = .returned (.bool true) ∧ Below w.heap.size w w' := by
  go_enter Tryd.func6, Tryd.ntmps6
  go_wp2
  refine wp_loop_rounds 3 ?_
  rw [rounds_succ]
  go_wp2
  rw [rounds_succ]
  go_wp2
  rw [rounds_succ]
  go_wp2
  refine wp_loop_rounds 3 ?_
  rw [rounds_succ]
  go_wp2_with fail
  refine (openNil a b _).mono ?_
  rintro e w1 ⟨rfl, rfl⟩
  go_wp2
  rw [rounds_succ]
  go_wp2_with fail
  refine (openEmpty _ a b _ (by first | go_simp | simp)).mono ?_
  rintro e w1 ⟨rfl, rfl⟩
  go_wp2
  rw [rounds_succ]
  go_wp2_with fail
  refine (newDisk 3 (by omega) (by omega) _).mono ?_
  rintro e w2 ⟨D, rfl, hF, hD1, hD2, hb⟩
  have hbA : Below w.heap.size w w2 := Below.trans (by repeat (first | exact Below.refl _ _ | refine Below.alloc ?_ (by simp <;> omega) _)) (hb.mono (by simp <;> omega))
  have hs := hbA.size
  have hO0 := openZ D 3 1 2 (by omega) (by omega) (by omega) w2 hF
  have hO : Hid (Calls Tryd.prog 27 #[.pointer (some ⟨D, 0, none⟩), .int .i64 1, .int .i64 2] w2 fun e w' => ∃ L T, e = .returned (.tuple #[.pointer (some ⟨L, 0, none⟩), .slice none 0 0, .int .i64 0]) ∧ LogAt w' L T D 1 2 1 0 0 0 (.slice none 0 0) ∧ w2.heap.size ≤ L ∧ w2.heap.size ≤ T ∧ L ≠ T ∧ Below w2.heap.size w2 w') := hO0
  clear hb hD1 hD2 hO0 hF
  go_wp2_with fail
  refine hO.out.mono ?_
  rintro e w3 ⟨L, T, rfl, hL, q1, q2, q3, hb3⟩
  have hfin := hbA.trans (hb3.mono hs)
  obtain ⟨l0, l1, l2, l3, l4, l5, l6, l7, l8⟩ := hL
  clear hO hb3 hbA q1 q2 q3
  have hR0 := lRoom L T 2 0 0 0 none w3 (by omega) (by omega) (by omega) l0 l3 l7 l8
  have hR : Hid (Calls Tryd.prog 26 #[.pointer (some ⟨L, 0, none⟩)] w3 fun e w' => e = .returned (.int .i64 224) ∧ ∃ q, w' = w3.drewN q) := hR0
  clear hR0
  go_wp2_with fail
  refine (lFirst L T 1 w3 l0 l4).mono ?_
  rintro e w4 ⟨rfl, hw⟩
  obtain rfl : w3 = w4 := hw.symm
  clear hw
  go_wp2_with fail
  refine hR.out.mono ?_
  rintro e w4 ⟨rfl, q, rfl⟩
  go_wp2
  go_ret
  exact ⟨rfl, blw_drewN q hfin⟩
end Go.Proofs.YtenpdjcbbleghacDoor
