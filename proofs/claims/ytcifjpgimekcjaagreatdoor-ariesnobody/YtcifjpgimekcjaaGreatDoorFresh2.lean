/-
  The log over a disk of noughts: contracts of area.has, records, area.clean, and of Open.
-/
import Derived.Test.YtcifjpgimekcjaaGreatDoorFresh
namespace Go.Proofs.YtcifjpgimekcjaaGreatDoor
open Go.RowKit
set_option linter.unusedVariables false

theorem Own.zero {w : World} {B : Nat} {v : Value} (h : Own w B v (lst (fun _ => 0) 128)) : ∃ g c, v = .slice (some ⟨g, 0, none⟩) 128 c ∧ B ≤ g ∧ g < w.heap.size ∧ 128 ≤ c := by
  obtain ⟨ao, c, h1, h2, h3, h4, h5, h6⟩ := h.openF
  rcases h2 with ⟨_, e⟩ | ⟨x, rfl, _⟩
  · omega
  · obtain ⟨k, rfl, k1, k2⟩ := h6 x rfl
    exact ⟨k, c, h1, k1, k2, h4⟩

set_option maxRecDepth 100000 in
set_option maxHeartbeats 1000000 in
theorem hasZ (D n from_ sectors : Nat) (h1 : 1 ≤ sectors) (hp : from_ + sectors ≤ n) (hn : n ≤ 4096) (w : World) (hF : Fresh w D n) :
    Calls Tryz.prog 80 #[.agg #[.pointer (some ⟨D, 0, none⟩), .int .i64 (from_ : Int), .int .i64 (sectors : Int)]] w fun e w' => e = .returned (.tuple #[.int .i64 0, .slice none 0 0]) ∧ Below w.heap.size w w' := by
  have hb0 : ∀ o, Below w.heap.size w (w.alloc o) := fun o => (Below.refl _ w).alloc (Nat.le_refl _) o
  have hF2 : Hid (∀ o, Fresh (w.alloc o) D n) := fun o => hF.below (hb0 o) (Nat.le_refl _)
  have HB : Hid (∀ o, Below w.heap.size w (w.alloc o)) := hb0
  have h1' : (0 : Int) < (sectors : Int) := by omega
  clear hb0
  go_enter Tryz.func80, Tryz.ntmps80
  go_wp2
  refine wp_loop_rounds 1 ?_
  rw [rounds_succ]
  go_wp2_with fail
  refine (areaRead D n from_ sectors 0 (by omega) hn _ (hF2.out _)).mono ?_
  rintro e w1 ⟨v, rfl, ho, hb⟩
  obtain ⟨g, c, rfl, k1, k2, k3⟩ := ho.zero
  have hA := (HB.out _).trans (hb.mono (by simp))
  go_wp2_with fail
  refine (rightZ g c _ 0 w1 ho k3).mono ?_
  rintro e w2 ⟨rfl, hb2⟩
  have hfin := hA.trans (hb2.mono hA.size)
  clear ho hb hA hb2
  go_wp2
  go_ret2
  exact ⟨rfl, hfin⟩

set_option maxRecDepth 100000 in
set_option maxHeartbeats 1000000 in
theorem recordsNil (w : World) :
    Calls Tryz.prog 81 #[.slice none 0 0] w fun e w' => e = .returned (.tuple #[.slice none 0 0, .int .i64 0]) ∧ Below w.heap.size w w' := by
  have hq : ∀ (w : World) (a : Option Addr) (n c n' c' : Nat), (binOp .eql 30 (.slice a n c) (.slice none n' c')).run Tryz.prog w = .ok (.bool a.isNone) w := fun w a n c n' c' => Lib.run_eql_slice_nil w _ _ a n c n' c' Tryz.underlying30
  go_enter Tryz.func81, Tryz.ntmps81
  go_wp2
  refine wp_loop_rounds 1 ?_
  rw [rounds_succ]
  go_wp2
  go_quiet (fail)
  go_wp2
  refine wp_loop_rounds 1 ?_
  rw [rounds_succ]
  go_wp2
  go_ret3
  go_wp2
  go_ret2
  exact ⟨rfl, blw_drewN _ ((Below.refl _ w).alloc (Nat.le_refl _) _)⟩

set_option maxRecDepth 100000 in
set_option maxHeartbeats 1000000 in
theorem cleanZ (D n from_ sectors : Nat) (hp : from_ + sectors ≤ n) (hn : n ≤ 4096) (w : World) (hF : Fresh w D n) :
    Calls Tryz.prog 82 #[.agg #[.pointer (some ⟨D, 0, none⟩), .int .i64 (from_ : Int), .int .i64 (sectors : Int)], .int .i64 0, .slice none 0 0, .int .i64 0] w fun e w' => e = .returned (.tuple #[]) ∧ Below w.heap.size w w' := by
  obtain ⟨o, ho⟩ : ∃ o, Obj.cells #[.pointer (some ⟨D, 0, none⟩), .int .i64 (from_ : Int), .int .i64 (sectors : Int)] 91 = o := ⟨_, rfl⟩
  have hc0 : (w.alloc o).cell? ⟨w.heap.size, 0, none⟩ = some (.pointer (some ⟨D, 0, none⟩)) := by rw [← ho, World.cell?_alloc_at _ _ _ _ rfl]; rfl
  have hc1 : (w.alloc o).cell? ⟨w.heap.size, 1, none⟩ = some (.int .i64 (from_ : Int)) := by rw [← ho, World.cell?_alloc_at _ _ _ _ rfl]; rfl
  have hc2 : (w.alloc o).cell? ⟨w.heap.size, 2, none⟩ = some (.int .i64 (sectors : Int)) := by rw [← ho, World.cell?_alloc_at _ _ _ _ rfl]; rfl
  have hb0 : Below w.heap.size w (w.alloc o) := (Below.refl _ w).alloc (Nat.le_refl _) o
  have hF2 : Fresh (w.alloc o) D n := hF.below hb0 (Nat.le_refl _)
  have hsz : (w.alloc o).heap.size = w.heap.size + 1 := by simp
  have HI : Hid (∀ wr, Below (w.alloc o).heap.size (w.alloc o) wr → Fresh wr D n ∧ wr.cell? ⟨w.heap.size, 0, none⟩ = some (.pointer (some ⟨D, 0, none⟩)) ∧ wr.cell? ⟨w.heap.size, 1, none⟩ = some (.int .i64 (from_ : Int)) ∧ wr.cell? ⟨w.heap.size, 2, none⟩ = some (.int .i64 (sectors : Int)) ∧ Below w.heap.size w wr) := fun wr hb =>
    ⟨hF2.below hb (Nat.le_refl _), by rw [hb.cell (by show w.heap.size < _; omega)]; exact hc0, by rw [hb.cell (by show w.heap.size < _; omega)]; exact hc1, by rw [hb.cell (by show w.heap.size < _; omega)]; exact hc2, hb0.trans (hb.mono (by omega))⟩
  have HN : Hid (decide (Nil (fun _ => 0) 128) = true) := decide_eq_true fun i _ => rfl
  clear hc0 hc1 hc2 hb0 hF2 hF
  go_enter Tryz.func82, Tryz.ntmps82
  go_wp2
  try rw [ho]
  go_loopw [8, 9] (fun p q wr => ∃ k : Nat, k ≤ sectors ∧ p = .int .i64 (k : Int) ∧ q = .bool false ∧ Below (w.alloc o).heap.size (w.alloc o) wr) (fun p _ _ => sectors - (intOf p).toNat)
  case atStart => exact ⟨0, Nat.zero_le _, rfl, rfl, Below.refl _ _⟩
  case round =>
    obtain ⟨k, hk, rfl, rfl, hb⟩ := hrel
    obtain ⟨f1, f2, f3, f4, f5⟩ := HI.out wr hb
    have hs := hb.size
    by_cases hlt : k < sectors
    · have hlt' : (k : Int) < (sectors : Int) := by omega
      go_wp2_with fail
      refine (areaRead D n from_ sectors k (by omega) hn wr f1).mono ?_
      rintro e w1 ⟨v, rfl, ho1, hb1⟩
      obtain ⟨g, c, rfl, k1, k2, k3⟩ := ho1.zero
      have hb2 := hb.trans (hb1.mono hs)
      have HC : Hid (∀ i, i < 128 → w1.cell? ⟨g, 0 + i, none⟩ = some (.int .u8 0)) := fun i hi => by rw [Nat.zero_add]; exact ho1.cellF i hi
      clear ho1 hb1 f1 f2 f3 f4 f5 hb
      go_wp2_with fail
      refine (blank_at g 0 128 c (fun _ => 0) w1 (by omega) HC).mono ?_
      rintro e w2 ⟨rfl, hw⟩
      obtain rfl : w1 = w2 := hw.symm
      rw [HN.out]
      clear hw
      go_wp2
      go_roundw
      case rel => exact ⟨k + 1, by omega, by go_num, rfl, hb2⟩
      case measure => simp [intOf]; omega
    · obtain rfl : k = sectors := by omega
      go_wp2
      go_end0
      exact ⟨rfl, f5⟩
end Go.Proofs.YtcifjpgimekcjaaGreatDoor
