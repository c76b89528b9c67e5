/-
  Contracts of a disk's calls over Dk: New, missing, has, cut, Sectors, Write. Conditions: at most 2^46 bytes are pending.
-/
import Derived.Test.YtnaobkpncfbnaaaGreatDoorDk
namespace Go.Proofs.YtnaobkpncfbnaaaGreatDoor
open Go.RowKit
set_option linter.unusedVariables false

theorem made_bytes (n : Nat) : (madeCells #[.int .u8 0] n).toList = (lst (fun _ => 0) n).map (Value.int .u8) := by
  apply List.ext_getElem?
  intro i
  by_cases hi : i < n
  · rw [List.getElem?_map, lst_get _ _ _ hi]
    simp [madeCells, hi]
    rw [Nat.mod_one]
    rfl
  · rw [List.getElem?_eq_none (by simp [madeCells]; omega), List.getElem?_eq_none (by rw [List.length_map, lst_length]; omega)]
theorem made_ints (n : Nat) : (madeCells #[.int .i64 0] n).toList = (lst (fun _ => 0) n).map (Value.int .i64) := by
  apply List.ext_getElem?
  intro i
  by_cases hi : i < n
  · rw [List.getElem?_map, lst_get _ _ _ hi]
    simp [madeCells, hi]
    rw [Nat.mod_one]
    rfl
  · rw [List.getElem?_eq_none (by simp [madeCells]; omega), List.getElem?_eq_none (by rw [List.length_map, lst_length]; omega)]
theorem own_made {w : World} {MB : Array Value} {xs : List Int} (h : MB.toList = xs.map (Value.int .u8)) (hl : xs.length ≤ 140737488355328) : Own (w.alloc (.cells MB 5)) 0 (.slice (some ⟨w.heap.size, 0, none⟩) xs.length xs.length) xs := by
  have := World.ownsRow_lit (base := 0) (e := 5) (size := 1) w MB xs.length (Nat.zero_le _) (by unfold maxLen; omega) (by rw [← Array.length_toList, h]; simp)
  rw [h] at this
  exact this
theorem ownI_made {w : World} {MB : Array Value} {xs : List Int} (h : MB.toList = xs.map (Value.int .i64)) (hl : xs.length ≤ 140737488355328) : OwnI (w.alloc (.cells MB 3)) 0 (.slice (some ⟨w.heap.size, 0, none⟩) xs.length xs.length) xs := by
  have := World.ownsRow_lit (base := 0) (e := 3) (size := 1) w MB xs.length (Nat.zero_le _) (by unfold maxLen; omega) (by rw [← Array.length_toList, h]; simp)
  rw [h] at this
  exact this
theorem heap_alloc_at (w : World) (o : Obj) (k : Nat) (h : k = w.heap.size) : (w.alloc o).heap[k]? = some o := by subst h; show (w.heap.push o)[w.heap.size]? = some o; simp
theorem heap_alloc_past (w : World) (o : Obj) (k : Nat) (h : k < w.heap.size) : (w.alloc o).heap[k]? = w.heap[k]? := Below.heap_alloc w o k h

set_option maxRecDepth 100000 in
set_option maxHeartbeats 1000000 in
theorem dkNew (n : Nat) (h1 : 1 ≤ n) (h2 : n ≤ 4096) (w : World) :
    Calls Tryz.prog 6 #[.int .i64 (n : Int)] w fun e w' => ∃ D, e = .returned (.tuple #[.pointer (some ⟨D, 0, none⟩), .int .i64 0]) ∧ Dk w' D (fun k => w.heap.size ≤ k ∧ k < w'.heap.size) n (fun _ => 0) 0 (fun _ => 0) (fun _ => 0) ∧ Below w.heap.size w w' := by
  obtain ⟨MB, hMB⟩ : ∃ MB, madeCells #[.int .u8 0] (n * 128) = MB := ⟨_, rfl⟩
  obtain ⟨MI, hMI⟩ : ∃ MI, madeCells #[.int .i64 0] n = MI := ⟨_, rfl⟩
  have hmb : ∀ w : World, (Instr.makeSlice 36 (.int .i64 ((n : Int) * 128)) (.int .i64 ((n : Int) * 128))).run Tryz.prog w = .ok (.slice (some ⟨w.heap.size, 0, none⟩) (n * 128) (n * 128)) (w.alloc (.cells MB 5)) := fun w => by
    rw [← hMB]
    exact run_make_row' (P := Tryz.prog) 36 5 (.int .u8 0) 1 Tryz.underlying36 info5 rfl .i64 .i64 (n * 128) (by omega) (by omega) w
  have hmi : ∀ w : World, (Instr.makeSlice 55 (.int .i64 (n : Int)) (.int .i64 (n : Int))).run Tryz.prog w = .ok (.slice (some ⟨w.heap.size, 0, none⟩) n n) (w.alloc (.cells MI 3)) := fun w => by
    rw [← hMI]
    exact run_make_row' (P := Tryz.prog) 55 3 (.int .i64 0) 8 Tryz.underlying55 info3 rfl .i64 .i64 n (by omega) (by omega) w
  have HB : Hid (∀ v : World, Own (v.alloc (.cells MB 5)) 0 (.slice (some ⟨v.heap.size, 0, none⟩) (n * 128) (n * 128)) (lst (fun _ => 0) (n * 128))) := fun v => by
    have := own_made (w := v) (MB := MB) (xs := lst (fun _ => 0) (n * 128)) (by rw [← hMB, made_bytes]) (by rw [lst_length]; omega)
    rw [lst_length] at this
    exact this
  have HI : Hid (∀ v : World, OwnI (v.alloc (.cells MI 3)) 0 (.slice (some ⟨v.heap.size, 0, none⟩) n n) (lst (fun _ => 0) n)) := fun v => by
    have := ownI_made (w := v) (MB := MI) (xs := lst (fun _ => 0) n) (by rw [← hMI, made_ints]) (by rw [lst_length]; omega)
    rw [lst_length] at this
    exact this
  clear hMB hMI
  have h1' : (1 : Int) ≤ (n : Int) := by omega
  have h2' : (n : Int) ≤ 4096 := by omega
  have hq : ((n : Int) * 128).tdiv 128 = (n : Int) := by rw [Int.tdiv_eq_ediv_of_nonneg (by omega)]; omega
  have hq2 : ((n : Int) * 128) / 128 = (n : Int) := by omega
  go_enter Tryz.func6, Tryz.ntmps6
  go_wp2
  go_ret2
  refine ⟨w.heap.size + 3, rfl, ⟨w.heap.size + 2, w.heap.size, w.heap.size + 1, n * 128, n, .slice none 0 0, .slice none 0 0, ?_⟩, ?_⟩
  · refine ⟨heap_alloc_at _ _ _ (by simp), ?_, ?_, ?_, World.ownsRow_nil _ _ _ _, ?_, (fun h => by cases h), (fun h => by cases h), ?_, ?_, ?_, ?_, (fun k h => by cases h), (fun k h => by cases h), fun k h => h.2, fun j h => by omega, fun _ => by decide, fun _ => by decide, h1, h2⟩
    · rw [heap_alloc_past _ _ _ (by simp), heap_alloc_at _ _ _ (by simp)]
    · exact ⟨Nat.le_refl _, by omega, _, World.ownsRow.alloc (World.ownsRow.alloc (World.ownsRow.alloc (HB.out w) _) _) _⟩
    · have := HI.out (w.alloc (.cells MB 5))
      simp only [World.size_alloc] at this
      exact World.ownsRow.alloc (World.ownsRow.alloc this _) _
    · rw [Nat.zero_mul]; exact World.ownsRow_nil _ _ _ _
    all_goals (simp)
    all_goals omega
  · repeat (first | exact Below.refl _ _ | refine Below.alloc ?_ (by simp <;> omega) _)

set_option maxHeartbeats 400000 in
theorem dMissing (D S : Nat) (w : World) (k1 : w.cell? ⟨D, 0, none⟩ = some (.pointer (some ⟨S, 0, none⟩))) : Calls Tryz.prog 48 #[.pointer (some ⟨D, 0, none⟩)] w fun e w' => e = .returned (.bool false) ∧ w' = w := by
  go_enter Tryz.func48, Tryz.ntmps48
  go_wp2
  go_ret
  exact ⟨rfl, rfl⟩
set_option maxHeartbeats 400000 in
theorem dHas (S n i : Nat) (a : Option Addr) (c : Nat) (hi : i < n) (w : World) (k3 : w.cell? ⟨S, 1, none⟩ = some (.slice a n c)) : Calls Tryz.prog 49 #[.pointer (some ⟨S, 0, none⟩), .int .i64 (i : Int)] w fun e w' => e = .returned (.bool true) ∧ w' = w := by
  have h1 : (0 : Int) ≤ (i : Int) := by omega
  have h2 : (i : Int) < (n : Int) := by omega
  go_enter Tryz.func49, Tryz.ntmps49
  go_wp2
  go_ret
  exact ⟨rfl, rfl⟩
set_option maxHeartbeats 400000 in
theorem dHas_no (S n : Nat) (i : Int) (a : Option Addr) (c : Nat) (hi : i < 0 ∨ (n : Int) ≤ i) (w : World) (k3 : w.cell? ⟨S, 1, none⟩ = some (.slice a n c)) : Calls Tryz.prog 49 #[.pointer (some ⟨S, 0, none⟩), .int .i64 i] w fun e w' => e = .returned (.bool false) ∧ w' = w := by
  by_cases h0 : i < 0
  · have h1 : ¬ (0 : Int) ≤ i := by omega
    go_enter Tryz.func49, Tryz.ntmps49
    go_wp2
    go_ret
    exact ⟨rfl, rfl⟩
  · have h1 : (0 : Int) ≤ i := by omega
    have h2 : ¬ i < (n : Int) := by omega
    go_enter Tryz.func49, Tryz.ntmps49
    go_wp2
    go_ret
    exact ⟨rfl, rfl⟩
set_option maxHeartbeats 400000 in
theorem cut_at (b L C i : Nat) (hi : (i + 1) * 128 ≤ C) (hC : C ≤ 9223372036854775807) (w : World) : Calls Tryz.prog 50 #[.slice (some ⟨b, 0, none⟩) L C, .int .i64 (i : Int)] w fun e w' => e = .returned (.slice (some ⟨b, i * 128, none⟩) 128 128) ∧ w' = w := by
  have h3 : (i : Int) * 128 ≤ (C : Int) := by omega
  have h4 : ((i : Int) + 1) * 128 ≤ (C : Int) := by omega
  have h5 : (i : Int) * 128 < (C : Int) := by omega
  go_enter Tryz.func50, Tryz.ntmps50
  go_wp2
  go_ret
  have e : (i + 1) * 128 - i * 128 = 128 := by omega
  rw [e]
  exact ⟨rfl, rfl⟩
set_option maxHeartbeats 400000 in
theorem dSectors (D S n c : Nat) (a : Option Addr) (w : World) (k1 : w.cell? ⟨D, 0, none⟩ = some (.pointer (some ⟨S, 0, none⟩))) (k3 : w.cell? ⟨S, 1, none⟩ = some (.slice a n c)) :
    Calls Tryz.prog 30 #[.pointer (some ⟨D, 0, none⟩)] w fun e w' => e = .returned (.int .i64 (n : Int)) ∧ w' = w := by
  go_enter Tryz.func30, Tryz.ntmps30
  go_wp2_with fail
  refine (dMissing D S w k1).mono ?_
  rintro e w1 ⟨rfl, hw⟩
  obtain rfl : w = w1 := hw.symm
  clear hw
  go_wp2
  go_ret
  exact ⟨rfl, rfl⟩
end Go.Proofs.YtnaobkpncfbnaaaGreatDoor
