/-
  A disk of noughts that no call has written (Fresh): contracts of disk.New, of its reads, and of the log's way over it (area.read, right).
-/
import Derived.Test.YtcifjpgimekcjaaGreatDoorSec2
import Derived.Test.YtcifjpgimekcjaaGreatDoorSeal
import Derived.Deep.OwnRows
namespace Go.Proofs.YtcifjpgimekcjaaGreatDoor
open Go.RowKit
set_option linter.unusedVariables false

structure FreshAt (w : World) (D S Bd Bl cD cL n : Nat) : Prop where
  d : w.cell? ⟨D, 0, none⟩ = some (.pointer (some ⟨S, 0, none⟩))
  durable : w.cell? ⟨S, 0, none⟩ = some (.slice (some ⟨Bd, 0, none⟩) (n * 128) cD)
  latest : w.cell? ⟨S, 1, none⟩ = some (.slice (some ⟨Bl, 0, none⟩) n cL)
  zeros : ∀ i, i < n * 128 → w.cell? ⟨Bd, i, none⟩ = some (.int .u8 0)
  nones : ∀ i, i < n → w.cell? ⟨Bl, i, none⟩ = some (.int .i64 0)
  targets : w.cell? ⟨S, 2, none⟩ = some (.slice none 0 0)
  loads : w.cell? ⟨S, 3, none⟩ = some (.slice none 0 0)
  room : n * 128 ≤ cD ∧ cD ≤ 9223372036854775807
def Fresh (w : World) (D n : Nat) : Prop := ∃ S Bd Bl cD cL, FreshAt w D S Bd Bl cD cL n
theorem Fresh.below {w w' : World} {B D n : Nat} (h : Fresh w D n) (hb : Below B w w') (hB : w.heap.size ≤ B) : Fresh w' D n := by
  obtain ⟨S, Bd, Bl, cD, cL, h⟩ := h
  have key : ∀ p v, w.cell? p = some v → w'.cell? p = some v := fun p v hp => by
    rw [hb.cell (p := p) (Nat.lt_of_lt_of_le (World.block_lt_of_cell? w _ hp) hB)]; exact hp
  exact ⟨S, Bd, Bl, cD, cL, key _ _ h.d, key _ _ h.durable, key _ _ h.latest, fun i hi => key _ _ (h.zeros i hi), fun i hi => key _ _ (h.nones i hi), key _ _ h.targets, key _ _ h.loads, h.room⟩

theorem info3 : (Tryz.prog.info? 3).map (fun i => (i.zero, i.size, i.bytes)) = some (some (.int .i64 0), 1, 8) := by kernel_rfl

set_option maxRecDepth 100000 in
set_option maxHeartbeats 1000000 in
theorem newDisk (n : Nat) (h1 : 1 ≤ n) (h2 : n ≤ 4096) (w : World) :
    Calls Tryz.prog 29 #[.int .i64 (n : Int)] w fun e w' => ∃ D, e = .returned (.tuple #[.pointer (some ⟨D, 0, none⟩), .int .i64 0]) ∧ Fresh w' D n ∧ w.heap.size ≤ D ∧ D < w'.heap.size ∧ Below w.heap.size w w' := by
  obtain ⟨MB, hMB⟩ : ∃ MB, madeCells #[.int .u8 0] (n * 128) = MB := ⟨_, rfl⟩
  obtain ⟨MI, hMI⟩ : ∃ MI, madeCells #[.int .i64 0] n = MI := ⟨_, rfl⟩
  have hmb : ∀ w : World, (Instr.makeSlice 30 (.int .i64 ((n : Int) * 128)) (.int .i64 ((n : Int) * 128))).run Tryz.prog w = .ok (.slice (some ⟨w.heap.size, 0, none⟩) (n * 128) (n * 128)) (w.alloc (.cells MB 5)) := fun w => by
    rw [← hMB]
    exact run_make_row' (P := Tryz.prog) 30 5 (.int .u8 0) 1 Tryz.underlying30 info5 rfl .i64 .i64 (n * 128) (by omega) (by omega) w
  have hmi : ∀ w : World, (Instr.makeSlice 37 (.int .i64 (n : Int)) (.int .i64 (n : Int))).run Tryz.prog w = .ok (.slice (some ⟨w.heap.size, 0, none⟩) n n) (w.alloc (.cells MI 3)) := fun w => by
    rw [← hMI]
    exact run_make_row' (P := Tryz.prog) 37 3 (.int .i64 0) 8 Tryz.underlying37 info3 rfl .i64 .i64 n (by omega) (by omega) w
  have HB : Hid (∀ i, i < n * 128 → MB[i]? = some (.int .u8 0)) := fun i hi => by
    rw [← hMB]
    simp [madeCells, hi]
    rw [Nat.mod_one]
    rfl
  have HI : Hid (∀ i, i < n → MI[i]? = some (.int .i64 0)) := fun i hi => by
    rw [← hMI]
    simp [madeCells, hi]
    rw [Nat.mod_one]
    rfl
  clear hMB hMI
  have h1' : (1 : Int) ≤ (n : Int) := by omega
  have h2' : (n : Int) ≤ 4096 := by omega
  have hq : ((n : Int) * 128).tdiv 128 = (n : Int) := by rw [Int.tdiv_eq_ediv_of_nonneg (by omega)]; omega
  have hq2 : ((n : Int) * 128) / 128 = (n : Int) := by omega
  go_enter Tryz.func29, Tryz.ntmps29
  go_wp2
  go_ret2
  refine ⟨w.heap.size + 3, rfl, ⟨w.heap.size + 2, w.heap.size, w.heap.size + 1, n * 128, n, ⟨?_, ?_, ?_, fun i hi => ?_, fun i hi => ?_, ?_, ?_, by omega⟩⟩, by omega, by simp, ?_⟩
  · rw [World.cell?_alloc_at _ _ _ _ (by simp)]
    rfl
  · rw [World.cell?_alloc_past _ _ _ (by simp), World.cell?_alloc_at _ _ _ _ (by simp)]
    rfl
  · rw [World.cell?_alloc_past _ _ _ (by simp), World.cell?_alloc_at _ _ _ _ (by simp)]
    rfl
  · rw [World.cell?_alloc_past _ _ _ (by first | (simp; done) | (simp; omega)), World.cell?_alloc_past _ _ _ (by first | (simp; done) | (simp; omega)), World.cell?_alloc_past _ _ _ (by first | (simp; done) | (simp; omega)), World.cell?_alloc_at _ _ _ _ (by simp)]
    exact HB.out i hi
  · rw [World.cell?_alloc_past _ _ _ (by first | (simp; done) | (simp; omega)), World.cell?_alloc_past _ _ _ (by first | (simp; done) | (simp; omega)), World.cell?_alloc_at _ _ _ _ (by simp)]
    exact HI.out i hi
  · rw [World.cell?_alloc_past _ _ _ (by simp), World.cell?_alloc_at _ _ _ _ (by simp)]
    rfl
  · rw [World.cell?_alloc_past _ _ _ (by simp), World.cell?_alloc_at _ _ _ _ (by simp)]
    rfl
  · repeat (first | exact Below.refl _ _ | refine Below.alloc ?_ (by simp <;> omega) _)

set_option maxHeartbeats 400000 in
theorem dMissing (D S : Nat) (w : World) (k1 : w.cell? ⟨D, 0, none⟩ = some (.pointer (some ⟨S, 0, none⟩))) : Calls Tryz.prog 49 #[.pointer (some ⟨D, 0, none⟩)] w fun e w' => e = .returned (.bool false) ∧ w' = w := by
  go_enter Tryz.func49, Tryz.ntmps49
  go_wp2
  go_ret
  exact ⟨rfl, rfl⟩
set_option maxHeartbeats 400000 in
theorem dHas (S n i : Nat) (a : Option Addr) (c : Nat) (hi : i < n) (w : World) (k3 : w.cell? ⟨S, 1, none⟩ = some (.slice a n c)) : Calls Tryz.prog 136 #[.pointer (some ⟨S, 0, none⟩), .int .i64 (i : Int)] w fun e w' => e = .returned (.bool true) ∧ w' = w := by
  have h1 : (0 : Int) ≤ (i : Int) := by omega
  have h2 : (i : Int) < (n : Int) := by omega
  go_enter Tryz.func136, Tryz.ntmps136
  go_wp2
  go_ret
  exact ⟨rfl, rfl⟩
set_option maxHeartbeats 400000 in
theorem cutZ (b n i c : Nat) (hi : i < n) (hn : n ≤ 4096) (hc : n * 128 ≤ c) (w : World) : Calls Tryz.prog 137 #[.slice (some ⟨b, 0, none⟩) (n * 128) c, .int .i64 (i : Int)] w fun e w' => e = .returned (.slice (some ⟨b, i * 128, none⟩) 128 128) ∧ w' = w := by
  have h3 : (i : Int) * 128 ≤ (c : Int) := by omega
  have h4 : ((i : Int) + 1) * 128 ≤ (c : Int) := by omega
  have h5 : (i : Int) * 128 < (c : Int) := by omega
  have h6 : (c = i * 128) = False := by simp; omega
  go_enter Tryz.func137, Tryz.ntmps137
  go_wp2
  go_ret
  have e : (i + 1) * 128 - i * 128 = 128 := by omega
  rw [e]
  exact ⟨rfl, rfl⟩

set_option maxRecDepth 100000 in
set_option maxHeartbeats 1000000 in
theorem readZ (D n i : Nat) (hi : i < n) (hn : n ≤ 4096) (w : World) (hF : Fresh w D n) :
    Calls Tryz.prog 129 #[.pointer (some ⟨D, 0, none⟩), .int .i64 (i : Int)] w fun e w' => ∃ v', e = .returned (.tuple #[v', .int .i64 0]) ∧ Own w' w.heap.size v' (lst (fun _ => 0) 128) ∧ Below w.heap.size w w' := by
  obtain ⟨S, Bd, Bl, cD, cL, k1, k2, k3, k4, k5, _, _, k8⟩ := hF
  have k5 := k5 i hi
  have HZ : Hid (From w (some ⟨Bd, i * 128, none⟩) 128 (fun _ => 0)) := .inr ⟨_, rfl, fun j hj => by
    rw [Addr.add_lit]
    exact k4 (i * 128 + j) (by omega)⟩
  clear k4
  have h1 : (0 : Int) ≤ (i : Int) := by omega
  have h2 : (i : Int) < (n : Int) := by omega
  go_enter Tryz.func129, Tryz.ntmps129
  go_wp2_with fail
  refine (dMissing D S w k1).mono ?_
  rintro e w1 ⟨rfl, hw⟩
  obtain rfl : w = w1 := hw.symm
  clear hw
  go_wp2_with fail
  refine (dHas S n i (some ⟨Bl, 0, none⟩) cL hi w k3).mono ?_
  rintro e w1 ⟨rfl, hw⟩
  obtain rfl : w = w1 := hw.symm
  clear hw
  go_wp2_with fail
  refine (cutZ Bd n i cD hi hn k8.1 w).mono ?_
  rintro e w1 ⟨rfl, hw⟩
  obtain rfl : w = w1 := hw.symm
  clear hw
  go_wp2_with fail
  refine (clone (some ⟨Bd, i * 128, none⟩) 128 128 (fun _ => 0) w (by omega) HZ.out).mono ?_
  rintro e w1 ⟨v, rfl, ho, hb⟩
  go_wp2
  go_ret2
  exact ⟨v, rfl, ho, hb⟩

set_option maxRecDepth 100000 in
set_option maxHeartbeats 1000000 in
theorem areaRead (D n from_ sectors place : Nat) (hp : from_ + place < n) (hn : n ≤ 4096) (w : World) (hF : Fresh w D n) :
    Calls Tryz.prog 118 #[.agg #[.pointer (some ⟨D, 0, none⟩), .int .i64 (from_ : Int), .int .i64 (sectors : Int)], .int .i64 (place : Int)] w fun e w' => ∃ v', e = .returned v' ∧ Own w' w.heap.size v' (lst (fun _ => 0) 128) ∧ Below w.heap.size w w' := by
  have hb0 : ∀ o, Below w.heap.size w (w.alloc o) := fun o => (Below.refl _ w).alloc (Nat.le_refl _) o
  have hF2 : Hid (∀ o, Fresh (w.alloc o) D n) := fun o => hF.below (hb0 o) (Nat.le_refl _)
  have HB : Hid (∀ o, Below w.heap.size w (w.alloc o)) := hb0
  clear hb0
  go_enter Tryz.func118, Tryz.ntmps118
  go_wp2_with fail
  refine (readZ D n (from_ + place) hp hn _ (hF2.out _)).mono ?_
  rintro e w1 ⟨v, rfl, ho, hb⟩
  have hfin := (HB.out _).trans (hb.mono (by simp))
  have ho := ho.mono (B' := w.heap.size) (by simp)
  go_wp2
  go_ret
  exact ⟨v, rfl, ho, hfin⟩

theorem rd_zero : ∀ k, rd (fun _ => 0) k = 0
  | 0 => rfl
  | k + 1 => by rw [rd, rd_zero k]; simp
set_option maxRecDepth 100000 in
set_option maxHeartbeats 1000000 in
theorem rightZ (g c B : Nat) (place : Int) (w : World) (ho : Own w B (.slice (some ⟨g, 0, none⟩) 128 c) (lst (fun _ => 0) 128)) (hc : 128 ≤ c) :
    Calls Tryz.prog 117 #[.slice (some ⟨g, 0, none⟩) 128 c, .int .i64 place] w fun e w' => e = .returned (.tuple #[.int .i64 0, .slice none 0 0, .bool false]) ∧ Below w.heap.size w w' := by
  have hN : numS (fun _ => 0) = 0 := by
    unfold numS sh
    rw [rd_zero]
    simp [wrap64]
  have HC : Hid (∀ wq : World, Below w.heap.size w wq → ∀ i, i < 128 → wq.cell? ⟨g, 0 + i, none⟩ = some (.int .u8 0)) := fun wq hq i hi => by
    have h9 := ho.cellF i hi
    rw [Nat.zero_add, hq.cell (p := ⟨g, i, none⟩) (World.block_lt_of_cell? w _ h9)]
    exact h9
  have HN : Hid (numS (fun _ => 0) = 0) := hN
  have h1 : w.cell? ⟨g, 1, none⟩ = some (.int .u8 0) := ho.cellF 1 (by omega)
  have hlt : g < w.heap.size := World.block_lt_of_cell? w _ h1
  clear ho hN
  go_enter Tryz.func117, Tryz.ntmps117
  go_wp2_with fail
  go_region_with (first
    | (go_at_call 138; refine (number_at g 0 c (fun _ => 0) _ hc (fun _ => by decide) (by first | exact HC.out _ (blw_drewN 1 (Below.refl _ w)) | exact HC.out _ ((blw_drewN 1 (Below.refl _ w)).trans hbL))).mono ?_; rintro e1 w1 ⟨rfl, rfl⟩; rw [HN.out])
    | (go_at_call 139; refine (load_at g 0 c (fun _ => 0) _ hc (by exact HC.out _ (blw_drewN 1 (Below.refl _ w)))).mono ?_; rintro e1 w2 ⟨vL, rfl, hoL, hbL⟩; have hc2 := HC.out w2 ((blw_drewN 1 (Below.refl _ w)).trans hbL) 1 (by omega); have hc3 : w2.cell? ⟨g, 1, none⟩ = some (.int .u8 0) := hc2; clear hc2))
  all_goals
    have hfin := (blw_drewN 1 (Below.refl w.heap.size w)).trans hbL
    have hw0 : IntKind.i64.wrap 0 = 0 := rfl
    go_wp2
    go_ret3
    exact ⟨rfl, hfin⟩
end Go.Proofs.YtcifjpgimekcjaaGreatDoor
