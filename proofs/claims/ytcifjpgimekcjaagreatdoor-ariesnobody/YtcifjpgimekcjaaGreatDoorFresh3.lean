/-
  Contract of log.Open over a disk of noughts.
-/
import Derived.Test.YtcifjpgimekcjaaGreatDoorFresh2
namespace Go.Proofs.YtcifjpgimekcjaaGreatDoor
open Go.RowKit
set_option linter.unusedVariables false

/-- A log as it lies in memory: the struct at L, its state at T. -/
structure LogAt (w : World) (L T D : Nat) (from_ sectors first last forced place : Int) (tail : Value) : Prop where
  l : w.cell? ⟨L, 0, none⟩ = some (.pointer (some ⟨T, 0, none⟩))
  c0 : w.cell? ⟨T, 0, none⟩ = some (.pointer (some ⟨D, 0, none⟩))
  c1 : w.cell? ⟨T, 1, none⟩ = some (.int .i64 from_)
  c2 : w.cell? ⟨T, 2, none⟩ = some (.int .i64 sectors)
  c3 : w.cell? ⟨T, 3, none⟩ = some (.int .i64 first)
  c4 : w.cell? ⟨T, 4, none⟩ = some (.int .i64 last)
  c5 : w.cell? ⟨T, 5, none⟩ = some (.int .i64 forced)
  c6 : w.cell? ⟨T, 6, none⟩ = some (.int .i64 place)
  c7 : w.cell? ⟨T, 7, none⟩ = some tail

set_option maxHeartbeats 400000 in
theorem dSectors (D n : Nat) (w : World) (hF : Fresh w D n) : Calls Tryz.prog 79 #[.pointer (some ⟨D, 0, none⟩)] w fun e w' => e = .returned (.int .i64 (n : Int)) ∧ w' = w := by
  obtain ⟨S, Bd, Bl, cD, cL, k1, k2, k3, k4, k5, _, _, _⟩ := hF
  clear k4 k5
  go_enter Tryz.func79, Tryz.ntmps79
  go_wp2_with fail
  refine (dMissing D S w k1).mono ?_
  rintro e w1 ⟨rfl, hw⟩
  obtain rfl : w = w1 := hw.symm
  clear hw
  go_wp2
  go_ret
  exact ⟨rfl, rfl⟩

set_option maxRecDepth 100000 in
set_option maxHeartbeats 1000000 in
theorem openZ (D n from_ sectors : Nat) (h1 : 1 ≤ sectors) (hp : from_ + sectors ≤ n) (hn : n ≤ 4096) (w : World) (hF : Fresh w D n) :
    Calls Tryz.prog 46 #[.pointer (some ⟨D, 0, none⟩), .int .i64 (from_ : Int), .int .i64 (sectors : Int)] w fun e w' => ∃ L T, e = .returned (.tuple #[.pointer (some ⟨L, 0, none⟩), .slice none 0 0, .int .i64 0]) ∧ LogAt w' L T D from_ sectors 1 0 0 0 (.slice none 0 0) ∧ w.heap.size ≤ L ∧ w.heap.size ≤ T ∧ L ≠ T ∧ Below w.heap.size w w' ∧ ∀ i, w'.frozen? ⟨T, i, none⟩ = false := by
  have HF : Hid (Fresh w D n) := hF
  obtain ⟨o, ho⟩ : ∃ o, Obj.cells #[.pointer (some ⟨D, 0, none⟩), .int .i64 (from_ : Int), .int .i64 (sectors : Int)] 91 = o := ⟨_, rfl⟩
  have hc0 : (w.alloc o).cell? ⟨w.heap.size, 0, none⟩ = some (.pointer (some ⟨D, 0, none⟩)) := by rw [← ho, World.cell?_alloc_at _ _ _ _ rfl]; rfl
  have hc1 : (w.alloc o).cell? ⟨w.heap.size, 1, none⟩ = some (.int .i64 (from_ : Int)) := by rw [← ho, World.cell?_alloc_at _ _ _ _ rfl]; rfl
  have hc2 : (w.alloc o).cell? ⟨w.heap.size, 2, none⟩ = some (.int .i64 (sectors : Int)) := by rw [← ho, World.cell?_alloc_at _ _ _ _ rfl]; rfl
  have hb0 : Below w.heap.size w (w.alloc o) := (Below.refl _ w).alloc (Nat.le_refl _) o
  have hF2 : Fresh (w.alloc o) D n := hF.below hb0 (Nat.le_refl _)
  have hsz : (w.alloc o).heap.size = w.heap.size + 1 := by simp
  have HI : Hid (∀ wr, Below (w.alloc o).heap.size (w.alloc o) wr → Fresh wr D n ∧ wr.cell? ⟨w.heap.size, 0, none⟩ = some (.pointer (some ⟨D, 0, none⟩)) ∧ wr.cell? ⟨w.heap.size, 1, none⟩ = some (.int .i64 (from_ : Int)) ∧ wr.cell? ⟨w.heap.size, 2, none⟩ = some (.int .i64 (sectors : Int)) ∧ Below w.heap.size w wr) := fun wr hb =>
    ⟨hF2.below hb (Nat.le_refl _), by rw [hb.cell (by show w.heap.size < _; omega)]; exact hc0, by rw [hb.cell (by show w.heap.size < _; omega)]; exact hc1, by rw [hb.cell (by show w.heap.size < _; omega)]; exact hc2, hb0.trans (hb.mono (by omega))⟩
  have HF2 : Hid (Fresh (w.alloc o) D n) := hF2
  have HO : Hid (Obj.cells #[.pointer (some ⟨D, 0, none⟩), .int .i64 (from_ : Int), .int .i64 (sectors : Int)] 91 = o) := ho
  clear hc0 hc1 hc2 hb0 hF2 ho
  have g1 : ((n : Int) == 0) = false := by simp; omega
  have g2 : ¬ (from_ : Int) < 0 := by omega
  have g3 : ¬ (sectors : Int) < 1 := by omega
  have g4 : ¬ (n : Int) - (from_ : Int) < (sectors : Int) := by omega
  clear hF
  go_enter Tryz.func46, Tryz.ntmps46
  go_wp2_with fail
  refine (dSectors D n w HF.out).mono ?_
  rintro e w1 ⟨rfl, hw⟩
  obtain rfl : w = w1 := hw.symm
  clear hw
  go_wp2_with fail
  refine (dSectors D n w HF.out).mono ?_
  rintro e w1 ⟨rfl, hw⟩
  obtain rfl : w = w1 := hw.symm
  clear hw
  go_wp2_with fail
  rw [HO.out]
  refine (hasZ D n from_ sectors h1 hp hn (w.alloc o) HF2.out).mono ?_
  rintro e w1 ⟨rfl, hb1⟩
  have hs1 := hb1.size
  go_wp2_with fail
  refine (recordsNil w1).mono ?_
  rintro e w2 ⟨rfl, hb2⟩
  have hb2 := hb1.trans (hb2.mono hs1)
  have hs2 := hb2.size
  obtain ⟨f1, f2, f3, f4, f5⟩ := HI.out w2 hb2
  have HF3 : Hid (Fresh w2 D n) := f1
  clear hb1 hs1 f1 f5
  go_wp2_with fail
  refine (cleanZ D n from_ sectors hp hn w2 HF3.out).mono ?_
  rintro e w3 ⟨rfl, hb3⟩
  have hb3 := hb2.trans (hb3.mono hs2)
  have hs3 := hb3.size
  obtain ⟨f1, f6, f7, f8, f9⟩ := HI.out w3 hb3
  have HB3 : Hid (Below w.heap.size w w3) := f9
  have hs9 := f9.size
  clear hb2 hs2 f1 f2 f3 f4 f9 HF3 HI HF2 HF hb3 HO hsz hs3
  go_wp2_with fail
  go_region
  have hq : ∀ (w : World) (a : Option Addr) (n c n' c' : Nat), (binOp .eql 30 (.slice a n c) (.slice none n' c')).run Tryz.prog w = .ok (.bool a.isNone) w := fun w a n c n' c' => Lib.run_eql_slice_nil w _ _ a n c n' c' Tryz.underlying30
  go_wp2
  go_end0
  go_wp2
  go_ret3
  refine ⟨w3.heap.size + 1, w3.heap.size, rfl, ?_, by omega, hs9, by omega, ?_, fun i => ?_⟩
  · constructor
    all_goals
      show (World.alloc _ _).cell? _ = _
      first
        | (rw [World.cell?_alloc_at _ _ _ _ (by simp)]; rfl)
        | (rw [World.cell?_alloc_past _ _ _ (by simp), World.cell?_alloc_at _ _ _ _ rfl]; rfl)
  · exact blw_drewN 1 ((HB3.out.alloc hs9 _).alloc (by simp; omega) _)
  · show (World.alloc _ _).frozen? _ = _
    rw [World.frozen?_alloc_past _ _ _ (by simp)]
    exact World.frozen?_alloc_at _ _ _ _ rfl
end Go.Proofs.YtcifjpgimekcjaaGreatDoor
