/-
  What recovery does over no record: decode, redo, takenBack; pool.New over a fresh disk; Force of a log without records; slices.Sort of none.
-/
import Derived.Test.YtcifjpgimekcjaaGreatDoorArB
namespace Go.Proofs.YtcifjpgimekcjaaGreatDoor
open Go.RowKit
set_option linter.unusedVariables false
set_option maxRecDepth 100000
set_option maxHeartbeats 2000000

theorem LogAt.below {w w' : World} {L T D : Nat} {a b c d e f : Int} {v : Value} (h : LogAt w L T D a b c d e f v) (hb : Below w.heap.size w w') : LogAt w' L T D a b c d e f v := by
  have key : ∀ p v, w.cell? p = some v → w'.cell? p = some v := fun p v hp => by
    rw [hb.cell (p := p) (World.block_lt_of_cell? w _ hp)]; exact hp
  exact ⟨key _ _ h.l, key _ _ h.c0, key _ _ h.c1, key _ _ h.c2, key _ _ h.c3, key _ _ h.c4, key _ _ h.c5, key _ _ h.c6, key _ _ h.c7⟩
theorem lMiss (L T : Nat) (w : World) (k1 : w.cell? ⟨L, 0, none⟩ = some (.pointer (some ⟨T, 0, none⟩))) : Calls Tryz.prog 45 #[.pointer (some ⟨L, 0, none⟩)] w fun e w' => e = .returned (.bool false) ∧ w' = w := by
  go_enter Tryz.func45, Tryz.ntmps45
  go_wp2
  go_ret
  exact ⟨rfl, rfl⟩
theorem forceZ {w : World} {L T D : Nat} {a b c e : Int} {v : Value} (h : LogAt w L T D a b c 0 0 e v) :
    Calls Tryz.prog 40 #[.pointer (some ⟨L, 0, none⟩)] w fun r w' => r = .returned (.int .i64 0) ∧ Below w.heap.size w w' := by
  have k1 := h.l
  have k4 := h.c4
  have k5 := h.c5
  have HB : Hid (∀ q, Below w.heap.size w (w.drewN q)) := fun q => blw_drewN q (Below.refl _ _)
  clear h
  go_enter Tryz.func40, Tryz.ntmps40
  go_wp2_with fail
  refine (lMiss L T w k1).mono ?_
  rintro r w0 ⟨rfl, hw⟩
  obtain rfl : w = w0 := hw.symm
  clear hw
  go_wp2_with fail
  go_region
  go_wp2
  go_ret
  exact ⟨rfl, HB.out _⟩
theorem decZ (s : Value) (w : World) : Calls Tryz.prog 83 #[s, .slice none 0 0] w fun e w' => e = .returned (.tuple #[.slice none 0 0, .bool true]) ∧ w' = w := by
  go_enter Tryz.func83, Tryz.ntmps83
  go_wp2
  go_loopw [6, 13] (fun a i wr => a = .slice none 0 0 ∧ i = .int .i64 0 ∧ wr = w) (fun _ _ _ => 0)
  case atStart => exact ⟨rfl, rfl, rfl⟩
  case round =>
    obtain ⟨rfl, rfl, rfl⟩ := hrel
    go_wp2
    go_ret2
    exact ⟨rfl, rfl⟩
theorem redZ (s : Value) (w : World) : Calls Tryz.prog 84 #[s, .slice none 0 0] w fun e w' => e = .returned (.int .i64 0) ∧ w' = w := by
  go_enter Tryz.func84, Tryz.ntmps84
  go_wp2
  go_loopw [14] (fun i wr => i = .int .i64 0 ∧ wr = w) (fun _ _ => 0)
  case atStart => exact ⟨rfl, rfl⟩
  case round =>
    obtain ⟨rfl, rfl⟩ := hrel
    go_wp2
    go_ret
    exact ⟨rfl, rfl⟩
theorem infoB4 : (Tryz.prog.info? 4).map (fun i => (i.zero, i.size, i.bytes)) = some (some (.bool false), 1, 1) := by kernel_rfl
theorem takZ (s : Value) (w : World) : Calls Tryz.prog 124 #[s, .slice none 0 0] w fun e w' => ∃ v, e = .returned v ∧ Below w.heap.size w w' := by
  have hmi : ∀ w : World, (Instr.makeSlice 184 (.int .i64 0) (.int .i64 0)).run Tryz.prog w = .ok (.slice (some ⟨w.heap.size, 0, none⟩) 0 0) (w.alloc (.cells (madeCells #[.bool false] 0) 4)) := fun w => run_make_row' (P := Tryz.prog) 184 4 (.bool false) 1 Tryz.underlying184 infoB4 rfl .i64 .i64 0 (by omega) (by omega) w
  have HB : Hid (∀ o, Below w.heap.size w (w.alloc o)) := fun o => (Below.refl _ w).alloc (Nat.le_refl _) o
  go_enter Tryz.func124, Tryz.ntmps124
  go_wp2
  go_loopw [14] (fun i wr => i = .int .i64 0 ∧ ∃ o, wr = w.alloc o) (fun _ _ => 0)
  case atStart => exact ⟨rfl, _, rfl⟩
  case round =>
    obtain ⟨rfl, o, rfl⟩ := hrel
    go_wp2
    go_ret
    exact ⟨_, rfl, HB.out _⟩
theorem k_len64' (w : World) : Calls Tryz.prog 167 #[.int .u64 0] w fun r w' => r = .returned (.int .i64 0) ∧ w' = w := by
  go_enter Tryz.func167, Tryz.ntmps167
  go_wp2
  go_ret
  refine ⟨?_, rfl⟩
  first
    | (decide; done)
    | (simp [wrap64]; done)
    | (simp [wrap64]; decide)
    | kernel_rfl
theorem k_len (w : World) : Calls Tryz.prog 134 #[.int .u64 0] w fun r w' => r = .returned (.int .i64 0) ∧ w' = w := by
  go_enter Tryz.func134, Tryz.ntmps134
  go_wp2_with first
    | (go_at_call 167; refine (k_len64' w).mono ?_; rintro r w1 ⟨rfl, hw⟩; rw [hw]; clear hw)
  go_ret
  exact ⟨rfl, rfl⟩
theorem k_ins (w : World) : Calls Tryz.prog 178 #[.slice none 0 0, .int .i64 0, .int .i64 0] w fun r w' => r = .returned (.tuple #[]) ∧ w' = w := by
  go_enter Tryz.func178, Tryz.ntmps178
  go_wp2
  go_loopw [6] (fun s wr => s = .int .i64 1 ∧ wr = w) (fun _ _ => 0)
  case atStart => exact ⟨by go_num, rfl⟩
  case round =>
    obtain ⟨rfl, rfl⟩ := hrel
    go_wp2
    go_end0
    exact ⟨rfl, rfl⟩
theorem k_pdq (w : World) : Calls Tryz.prog 171 #[.slice none 0 0, .int .i64 0, .int .i64 0, .int .i64 0] w fun r w' => r = .returned (.tuple #[]) ∧ w' = w := by
  go_enter Tryz.func171, Tryz.ntmps171
  go_wp2
  go_loopw [1, 2] (fun a b wr => a = .int .i64 0 ∧ b = .int .i64 0 ∧ wr = w) (fun _ _ _ => 0)
  case atStart => exact ⟨rfl, rfl, rfl⟩
  case round =>
    obtain ⟨rfl, rfl, rfl⟩ := hrel
    go_wp2_with fail
    refine (k_ins _).mono ?_
    rintro r w1 ⟨rfl, rfl⟩
    go_wp2
    refine bodyPost_ret (results_none rfl _ _ _) rfl ?_
    exact ⟨rfl, rfl⟩
theorem k_sort (w : World) : Calls Tryz.prog 150 #[.slice none 0 0] w fun r w' => r = .returned (.tuple #[]) ∧ w' = w := by
  go_enter Tryz.func150, Tryz.ntmps150
  go_wp2_with first
    | (go_at_call 134; refine (k_len w).mono ?_; rintro r w1 ⟨rfl, hw⟩; rw [hw]; clear hw)
    | (go_at_call 171; refine (k_pdq w).mono ?_; rintro r w1 ⟨rfl, hw⟩; rw [hw]; clear hw)
  go_end0
  exact ⟨rfl, rfl⟩
/-- pool.New over a fresh disk and a fresh log. -/
theorem pNewZ {w : World} {D L T : Nat} {v : Value} (hF : Fresh w D 46) (hL : LogAt w L T D 0 40 1 0 0 0 v) : Calls Tryz.prog 47 #[.pointer (some ⟨D, 0, none⟩), .pointer (some ⟨L, 0, none⟩), .int .i64 40, .int .i64 6, .int .i64 2] w fun r w' => ∃ P, r = .returned (.tuple #[.pointer (some ⟨P, 0, none⟩), .int .i64 0]) ∧ Below w.heap.size w w' := by
  have HS : Hid (Calls Tryz.prog 79 #[.pointer (some ⟨D, 0, none⟩)] w fun e w' => e = .returned (.int .i64 46) ∧ w' = w) := dSectors D 46 w hF
  have HL : Hid (Calls Tryz.prog 26 #[.pointer (some ⟨L, 0, none⟩)] w fun r w' => r = .returned (.int .i64 1) ∧ w' = w) := firstZ hL
  have HB : Hid (∀ o p, Below w.heap.size w ((w.alloc o).alloc p)) := fun o p => ((Below.refl _ w).alloc (Nat.le_refl _) o).alloc (by simp) p
  clear hF hL
  go_enter Tryz.func47, Tryz.ntmps47
  go_wp2_with first
    | (go_at_call 79; refine HS.out.mono ?_; rintro r w1 ⟨rfl, hw⟩; rw [hw]; clear hw)
    | (go_at_call 26; refine HL.out.mono ?_; rintro r w1 ⟨rfl, hw⟩; rw [hw]; clear hw)
  go_ret2
  exact ⟨_, rfl, HB.out _ _⟩
end Go.Proofs.YtcifjpgimekcjaaGreatDoor
