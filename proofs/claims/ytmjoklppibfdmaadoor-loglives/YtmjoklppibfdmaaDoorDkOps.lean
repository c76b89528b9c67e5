/-
  Contracts of a disk's calls over Dk: New, missing, has, cut, Sectors, Write. Conditions: at most 2^46 bytes are pending.
-/
import Derived.Test.YtmjoklppibfdmaaDoorDk
namespace Go.Proofs.YtmjoklppibfdmaaDoor
open Go.RowKit
set_option linter.unusedVariables false

theorem made_bytes (n : Nat) : (madeCells #[.int .u8 0] n).toList = (lst (fun _ => 0) n).map (Value.int .u8) := by
  apply List.ext_getElem?
  intro i
  by_cases hi : i < n
  · rw [List.getElem?_map, lst_get _ _ _ hi]
    simp [madeCells, hi]
    rw [Nat.mod_one]
    rfl
  · rw [List.getElem?_eq_none (by simp [madeCells]; omega), List.getElem?_eq_none (by rw [List.length_map, lst_length]; omega)]
theorem made_ints (n : Nat) : (madeCells #[.int .i64 0] n).toList = (lst (fun _ => 0) n).map (Value.int .i64) := by
  apply List.ext_getElem?
  intro i
  by_cases hi : i < n
  · rw [List.getElem?_map, lst_get _ _ _ hi]
    simp [madeCells, hi]
    rw [Nat.mod_one]
    rfl
  · rw [List.getElem?_eq_none (by simp [madeCells]; omega), List.getElem?_eq_none (by rw [List.length_map, lst_length]; omega)]
theorem own_made {w : World} {MB : Array Value} {xs : List Int} (h : MB.toList = xs.map (Value.int .u8)) (hl : xs.length ≤ 140737488355328) : Own (w.alloc (.cells MB 5)) 0 (.slice (some ⟨w.heap.size, 0, none⟩) xs.length xs.length) xs := by
  have := World.ownsRow_lit (base := 0) (e := 5) (size := 1) w MB xs.length (Nat.zero_le _) (by unfold maxLen; omega) (by rw [← Array.length_toList, h]; simp)
  rw [h] at this
  exact this
theorem ownI_made {w : World} {MB : Array Value} {xs : List Int} (h : MB.toList = xs.map (Value.int .i64)) (hl : xs.length ≤ 140737488355328) : OwnI (w.alloc (.cells MB 3)) 0 (.slice (some ⟨w.heap.size, 0, none⟩) xs.length xs.length) xs := by
  have := World.ownsRow_lit (base := 0) (e := 3) (size := 1) w MB xs.length (Nat.zero_le _) (by unfold maxLen; omega) (by rw [← Array.length_toList, h]; simp)
  rw [h] at this
  exact this
theorem heap_alloc_at (w : World) (o : Obj) (k : Nat) (h : k = w.heap.size) : (w.alloc o).heap[k]? = some o := by subst h; show (w.heap.push o)[w.heap.size]? = some o; simp
theorem heap_alloc_past (w : World) (o : Obj) (k : Nat) (h : k < w.heap.size) : (w.alloc o).heap[k]? = w.heap[k]? := Below.heap_alloc w o k h

set_option maxHeartbeats 400000 in
theorem dMissing (D S : Nat) (w : World) (k1 : w.cell? ⟨D, 0, none⟩ = some (.pointer (some ⟨S, 0, none⟩))) : Calls Tryd.prog 50 #[.pointer (some ⟨D, 0, none⟩)] w fun e w' => e = .returned (.bool false) ∧ w' = w := by
  go_enter Tryd.func50, Tryd.ntmps50
  go_wp2
  go_ret
  exact ⟨rfl, rfl⟩
set_option maxHeartbeats 400000 in
theorem dHas (S n i : Nat) (a : Option Addr) (c : Nat) (hi : i < n) (w : World) (k3 : w.cell? ⟨S, 1, none⟩ = some (.slice a n c)) : Calls Tryd.prog 106 #[.pointer (some ⟨S, 0, none⟩), .int .i64 (i : Int)] w fun e w' => e = .returned (.bool true) ∧ w' = w := by
  have h1 : (0 : Int) ≤ (i : Int) := by omega
  have h2 : (i : Int) < (n : Int) := by omega
  go_enter Tryd.func106, Tryd.ntmps106
  go_wp2
  go_ret
  exact ⟨rfl, rfl⟩
set_option maxHeartbeats 400000 in
theorem dHas_no (S n : Nat) (i : Int) (a : Option Addr) (c : Nat) (hi : i < 0 ∨ (n : Int) ≤ i) (w : World) (k3 : w.cell? ⟨S, 1, none⟩ = some (.slice a n c)) : Calls Tryd.prog 106 #[.pointer (some ⟨S, 0, none⟩), .int .i64 i] w fun e w' => e = .returned (.bool false) ∧ w' = w := by
  by_cases h0 : i < 0
  · have h1 : ¬ (0 : Int) ≤ i := by omega
    go_enter Tryd.func106, Tryd.ntmps106
    go_wp2
    go_ret
    exact ⟨rfl, rfl⟩
  · have h1 : (0 : Int) ≤ i := by omega
    have h2 : ¬ i < (n : Int) := by omega
    go_enter Tryd.func106, Tryd.ntmps106
    go_wp2
    go_ret
    exact ⟨rfl, rfl⟩
set_option maxHeartbeats 400000 in
theorem cut_at (b L C i : Nat) (hi : (i + 1) * 128 ≤ C) (hC : C ≤ 9223372036854775807) (w : World) : Calls Tryd.prog 55 #[.slice (some ⟨b, 0, none⟩) L C, .int .i64 (i : Int)] w fun e w' => e = .returned (.slice (some ⟨b, i * 128, none⟩) 128 128) ∧ w' = w := by
  have h3 : (i : Int) * 128 ≤ (C : Int) := by omega
  have h4 : ((i : Int) + 1) * 128 ≤ (C : Int) := by omega
  have h5 : (i : Int) * 128 < (C : Int) := by omega
  go_enter Tryd.func55, Tryd.ntmps55
  go_wp2
  go_ret
  have e : (i + 1) * 128 - i * 128 = 128 := by omega
  rw [e]
  exact ⟨rfl, rfl⟩
set_option maxHeartbeats 400000 in
theorem dSectors (D S n c : Nat) (a : Option Addr) (w : World) (k1 : w.cell? ⟨D, 0, none⟩ = some (.pointer (some ⟨S, 0, none⟩))) (k3 : w.cell? ⟨S, 1, none⟩ = some (.slice a n c)) :
    Calls Tryd.prog 43 #[.pointer (some ⟨D, 0, none⟩)] w fun e w' => e = .returned (.int .i64 (n : Int)) ∧ w' = w := by
  go_enter Tryd.func43, Tryd.ntmps43
  go_wp2_with fail
  refine (dMissing D S w k1).mono ?_
  rintro e w1 ⟨rfl, hw⟩
  obtain rfl : w = w1 := hw.symm
  clear hw
  go_wp2
  go_ret
  exact ⟨rfl, rfl⟩
end Go.Proofs.YtmjoklppibfdmaaDoor
