/-
  A pool's calls over clean pages: Table (of no page that is dirty).
-/
import Derived.Test.YtnaobkpncfbnaaaGreatDoorPoJ
namespace Go.Proofs.YtnaobkpncfbnaaaGreatDoor
open Go.RowKit
set_option linter.unusedVariables false

set_option maxRecDepth 100000 in
set_option maxHeartbeats 2000000 in
theorem k_len64 (w : World) : Calls Tryz.prog 92 #[.int .u64 0] w fun r w' => r = .returned (.int .i64 0) ∧ w' = w := by
  go_enter Tryz.func92, Tryz.ntmps92
  go_wp2
  go_ret
  refine ⟨?_, rfl⟩
  first
    | (decide; done)
    | (simp [wrap64]; done)
    | (simp [wrap64]; decide)
    | kernel_rfl
set_option maxRecDepth 100000 in
set_option maxHeartbeats 2000000 in
theorem k_len (w : World) : Calls Tryz.prog 54 #[.int .u64 0] w fun r w' => r = .returned (.int .i64 0) ∧ w' = w := by
  go_enter Tryz.func54, Tryz.ntmps54
  go_wp2_with fail
  refine (k_len64 w).mono ?_
  rintro r w1 ⟨rfl, hw⟩
  obtain rfl : w = w1 := hw.symm
  go_wp2
  go_ret
  exact ⟨rfl, rfl⟩
set_option maxRecDepth 100000 in
set_option maxHeartbeats 2000000 in
theorem k_ins (f : Value) (w : World) : Calls Tryz.prog 136 #[.slice none 0 0, .int .i64 0, .int .i64 0, f] w fun r w' => r = .returned (.tuple #[]) ∧ w' = w := by
  go_enter Tryz.func136, Tryz.ntmps136
  go_wp2
  go_loopw [8] (fun s wr => s = .int .i64 1 ∧ wr = w) (fun _ _ => 0)
  case atStart => exact ⟨by go_num, rfl⟩
  case round =>
    obtain ⟨rfl, rfl⟩ := hrel
    go_wp2
    go_end0
    exact ⟨rfl, rfl⟩
set_option maxRecDepth 100000 in
set_option maxHeartbeats 2000000 in
theorem k_pdq (f : Value) (w : World) : Calls Tryz.prog 114 #[.slice none 0 0, .int .i64 0, .int .i64 0, .int .i64 0, f] w fun r w' => r = .returned (.tuple #[]) ∧ w' = w := by
  go_enter Tryz.func114, Tryz.ntmps114
  go_wp2
  go_loopw [1, 2] (fun a b wr => a = .int .i64 0 ∧ b = .int .i64 0 ∧ wr = w) (fun _ _ _ => 0)
  case atStart => exact ⟨rfl, rfl, rfl⟩
  case round =>
    obtain ⟨rfl, rfl, rfl⟩ := hrel
    go_wp2_with fail
    refine (k_ins f _).mono ?_
    rintro r w1 ⟨rfl, rfl⟩
    go_wp2
    refine bodyPost_ret (results_none rfl _ _ _) rfl ?_
    exact ⟨rfl, rfl⟩
set_option maxRecDepth 100000 in
set_option maxHeartbeats 2000000 in
theorem k_sort (f : Value) (w : World) : Calls Tryz.prog 77 #[.slice none 0 0, f] w fun r w' => r = .returned (.tuple #[]) ∧ w' = w := by
  go_enter Tryz.func77, Tryz.ntmps77
  go_wp2_with fail
  refine (k_len _).mono ?_
  rintro r w1 ⟨rfl, hw⟩
  obtain rfl : w = w1 := hw.symm
  clear hw
  go_wp2_with fail
  refine (k_pdq f _).mono ?_
  rintro r w1 ⟨rfl, rfl⟩
  go_wp2
  go_end0
  exact ⟨rfl, rfl⟩
set_option maxRecDepth 100000 in
set_option maxHeartbeats 2000000 in
theorem z_changed [E : Ext] {wb w : World} {S D L bf n : Nat} {m : Int} {X : Nat → Bf} (k : Pz wb w S m D L bf n X) : Calls Tryz.prog 51 #[.pointer (some ⟨S, 7, none⟩)] w fun r w' => r = .returned (.slice none 0 0) ∧ w' = w := by
  obtain ⟨held, h1, h2⟩ := k.ps.lay
  have nb : n ≤ 5 := by have := k.nb; omega
  have c7 : w.cell? ⟨S, 7, none⟩ = some held := by rw [cells_at h1 7]; rfl
  have HD : Hid (∀ j, j < n → Calls Tryz.prog 73 #[ptr (X j).b] w fun r w' => r = .returned (.bool false) ∧ w' = w) := fun j hj => s_dirty _ w (k.ps.buf j hj) (k.cl j hj).1
  obtain ⟨a7, l7, rfl, HJ⟩ : ∃ a c, held = .slice a n c ∧ Hid (0 < n → ∃ g, a = some ⟨g, 0, none⟩ ∧ ∀ j, j < n → w.cell? ⟨g, j, none⟩ = some (ptr (X j).b)) := by
    rcases h2.open with ⟨rfl, rfl⟩ | ⟨g, c, cur, rfl, g2, g3, g4, g5, g6⟩
    · exact ⟨none, _, rfl, fun h => absurd h (by omega)⟩
    · exact ⟨_, c, rfl, fun _ => ⟨g, rfl, fun j hj => (h2.cell j hj).1⟩⟩
  clear k h1 h2
  go_enter Tryz.func51, Tryz.ntmps51
  go_wp2
  go_loopw [3, 11] (fun s i wr => ∃ k : Nat, k ≤ n ∧ i = .int .i64 (k : Int) ∧ s = .slice none 0 0 ∧ wr = w) (fun _ i _ => n - (intOf i).toNat)
  case atStart => exact ⟨0, Nat.zero_le _, rfl, rfl, rfl⟩
  case round =>
    obtain ⟨k, hk, rfl, rfl, rfl⟩ := hrel
    by_cases hlt : k < n
    · obtain ⟨g, rfl, hg⟩ := HJ.out (by omega)
      have x1 := hg k hlt
      have HDk := HD.out k hlt
      clear hg
      unfold ptr at x1 HDk
      have l1 : (k : Int) < (n : Int) := by omega
      have l2 : (0 : Int) ≤ (k : Int) := by omega
      go_wp2_with fail
      refine HDk.mono ?_
      rintro r w1 ⟨rfl, rfl⟩
      go_wp2
      go_roundw
      case rel => exact ⟨k + 1, by omega, by go_num, rfl, trivial⟩
      case measure => simp [intOf]; omega
    · obtain rfl : k = n := by omega
      go_wp2_with fail
      refine (k_sort _ _).mono ?_
      rintro r w1 ⟨rfl, rfl⟩
      go_wp2
      go_ret
      exact ⟨rfl, rfl⟩
set_option maxRecDepth 100000 in
set_option maxHeartbeats 2000000 in
/-- Table. -/
theorem z_table [E : Ext] {wb w : World} {S D L bf n : Nat} {X : Nat → Bf} (k : Pz wb w S 0 D L bf n X) : Calls Tryz.prog 18 #[.pointer (some ⟨S + 1, 0, none⟩)] w fun r w' => r = .returned (.slice none 0 0) ∧ Hid (Pz wb w' S 0 D L bf n X) := by
  have HM : Hid (Calls Tryz.prog 40 #[.pointer (some ⟨S + 1, 0, none⟩)] w fun r w' => r = .returned (.bool false) ∧ w' = w) := z_missing k
  have HL : Hid (Calls Tryz.prog 41 #[.pointer (some ⟨S, 0, none⟩)] w fun r w' => r = .returned (.tuple #[]) ∧ Hid (Pz wb w' S 1 D L bf n X)) := z_lock k
  have c0 := k.cells
  have HC : Hid (∀ wq, Pz wb wq S 1 D L bf n X → wq.cell? ⟨S + 1, 0, none⟩ = some (.pointer (some ⟨S, 0, none⟩)) ∧ Hid (Calls Tryz.prog 51 #[.pointer (some ⟨S, 7, none⟩)] wq fun r w' => r = .returned (.slice none 0 0) ∧ w' = wq)) := fun wq kq => ⟨kq.cells, z_changed kq⟩
  clear k
  go_enter_defers Tryz.func18, Tryz.ntmps18
  go_wp2_with fail
  refine HM.out.mono ?_
  rintro r w1 ⟨rfl, hw⟩
  obtain rfl : w = w1 := hw.symm
  clear hw
  go_wp2_with fail
  refine HL.out.mono ?_
  rintro r w1 ⟨rfl, k1⟩
  obtain ⟨c1, HH⟩ := HC.out _ k1.out
  clear c0 HM HL
  go_wp2_with fail
  refine HH.out.mono ?_
  rintro r w2 ⟨rfl, hw⟩
  obtain rfl : w1 = w2 := hw.symm
  clear hw
  go_wp2
  go_loopw [3, 29] (fun s i wr => s = .slice none 0 0 ∧ i = .int .i64 0 ∧ wr = w1) (fun _ _ _ => 0)
  case atStart => exact ⟨rfl, rfl, rfl⟩
  case round =>
    obtain ⟨rfl, rfl, rfl⟩ := hrel
    go_wp2
    refine leaves_cons (f := 42) (args := #[.pointer (some ⟨S, 0, none⟩)]) (by simp) (by simp [go_sem]) ?_
    refine (z_unlock k1.out .returning).mono ?_
    rintro e u' w9 ⟨rfl, rfl, HZ⟩
    exact ⟨_, results_tmp rfl _ _ _, rfl, HZ⟩
