/-
  Recovery over no record; aries.over, aries.Open over a fresh disk; the law's begin.
-/
import Derived.Test.YtcifjpgimekcjaaGreatDoorArE
namespace Go.Proofs.YtcifjpgimekcjaaGreatDoor
open Go.RowKit
set_option linter.unusedVariables false
set_option maxRecDepth 100000
set_option maxHeartbeats 2000000

theorem restZ {w : World} {L T D S : Nat} {a b c e : Int} {v : Value} (hL : LogAt w L T D a b c 0 0 e v) (hS : w.cell? ⟨S, 3, none⟩ = some (.pointer (some ⟨L, 0, none⟩))) :
    Calls Tryz.prog 48 #[.pointer (some ⟨S, 0, none⟩), .slice none 0 0] w fun r w' => r = .returned (.int .i64 0) ∧ Below w.heap.size w w' := by
  have HD := decZ (.pointer (some ⟨S, 0, none⟩)) w
  have HR := redZ (.pointer (some ⟨S, 0, none⟩)) w
  have HL := losersE (.pointer (some ⟨S, 0, none⟩)) w
  have HF : Hid (∀ w1, Below w.heap.size w w1 → w1.cell? ⟨S, 3, none⟩ = some (.pointer (some ⟨L, 0, none⟩)) ∧ Calls Tryz.prog 40 #[.pointer (some ⟨L, 0, none⟩)] w1 fun r w' => r = .returned (.int .i64 0) ∧ Below w.heap.size w w') := fun w1 hb => by
    refine ⟨(hb.cell (p := ⟨S, 3, none⟩) (World.block_lt_of_cell? w _ hS)).trans hS, (forceZ (hL.below hb)).mono ?_⟩
    rintro r w' ⟨rfl, hb'⟩
    exact ⟨rfl, hb.trans (hb'.mono hb.size)⟩
  clear hL hS
  go_enter Tryz.func48, Tryz.ntmps48
  go_wp2_with first
    | (go_at_call 83; refine HD.mono ?_; clear HD; rintro r w1 ⟨rfl, hw⟩; rw [hw]; clear hw)
    | (go_at_call 84; refine HR.mono ?_; clear HR; rintro r w1 ⟨rfl, hw⟩; rw [hw]; clear hw)
    | (go_at_call 85; refine HL.mono ?_; clear HL; rintro r w1 ⟨rfl, hb1⟩; obtain ⟨hc1, HF1⟩ := HF.out w1 hb1)
  go_loopw [29] (fun i wr => i = .int .i64 0 ∧ wr = w1) (fun _ _ => 0)
  case atStart => exact ⟨rfl, rfl⟩
  case round =>
    obtain ⟨rfl, rfl⟩ := hrel
    go_wp2_with (go_at_call 40; refine HF1.mono ?_; clear HF1; rintro r w3 ⟨rfl, hb3⟩)
    go_ret
    exact ⟨rfl, hb3⟩
theorem overZ (D : Nat) (w : World) (hF : Fresh w D 46) : Calls Tryz.prog 27 #[.pointer (some ⟨D, 0, none⟩), .int .i64 40, .int .i64 6, .int .i64 2] w fun r w' => ∃ M, r = .returned (.tuple #[.pointer (some ⟨M, 0, none⟩), .int .i64 0]) ∧ Below w.heap.size w w' := by
  have HO : Calls Tryz.prog 46 #[.pointer (some ⟨D, 0, none⟩), .int .i64 0, .int .i64 40] w fun e w' => ∃ L, e = .returned (.tuple #[.pointer (some ⟨L, 0, none⟩), .slice none 0 0, .int .i64 0]) ∧ Hid ((∃ T, LogAt w' L T D 0 40 1 0 0 0 (.slice none 0 0)) ∧ Fresh w' D 46 ∧ Below w.heap.size w w') := by
    refine (openZ D 46 0 40 (by omega) (by omega) (by omega) w hF).mono ?_
    rintro e w' ⟨L, T, rfl, h1, _, _, _, h2, _⟩
    exact ⟨L, rfl, ⟨T, h1⟩, hF.below h2 (Nat.le_refl _), h2⟩
  clear hF
  go_enter Tryz.func27, Tryz.ntmps27
  go_wp2_with (go_at_call 46; refine HO.mono ?_; clear HO; rintro r w1 ⟨L, rfl, HH⟩; obtain ⟨⟨T, hL⟩, hF1, hb1⟩ := HH.out; have HP := pNewZ hF1 hL)
  all_goals try (refine HP.mono ?_)
  rintro r w2 ⟨P, rfl, hb2⟩
  have HB2 : Hid (Below w.heap.size w w2) := hb1.trans (hb2.mono hb1.size)
  obtain ⟨W3, hW3⟩ : ∃ W3, W3 = w2.alloc (.cells #[.int .i32 0, .int .u32 0, .pointer (some ⟨P, 0, none⟩), .pointer (some ⟨L, 0, none⟩), .int .i64 6, .int .i64 0, .slice none 0 0] 61) := ⟨_, rfl⟩
  have hb3 : Below w2.heap.size w2 W3 := by rw [hW3]; exact (Below.refl _ _).alloc (Nat.le_refl _) _
  have hc3 : W3.cell? ⟨w2.heap.size, 3, none⟩ = some (.pointer (some ⟨L, 0, none⟩)) := by
    have := cells_at (heap_alloc_at w2 (.cells #[.int .i32 0, .int .u32 0, .pointer (some ⟨P, 0, none⟩), .pointer (some ⟨L, 0, none⟩), .int .i64 6, .int .i64 0, .slice none 0 0] 61) _ rfl) 3
    rw [hW3]
    exact this
  have HR := restZ ((hL.below hb2).below hb3) hc3
  have HB3 : Hid (Below w.heap.size w W3) := HB2.out.trans (hb3.mono HB2.out.size)
  clear hL hF1 hb1 hb2 hb3 hc3 HH HP
  go_wp2_with fail
  rw [← hW3]
  refine HR.mono ?_
  rintro r w4 ⟨rfl, hb4⟩
  have HB4 : Hid (∀ o, Below w.heap.size w (w4.alloc o)) := fun o => by
    have h := HB3.out.trans (hb4.mono HB3.out.size)
    exact h.alloc h.size o
  clear hb4 HR hW3
  go_wp2
  go_ret2
  exact ⟨_, rfl, HB4.out _⟩
theorem ariesZ (D : Nat) (w : World) (hF : Fresh w D 46) : Calls Tryz.prog 13 #[.pointer (some ⟨D, 0, none⟩), .int .i64 40, .int .i64 6, .int .i64 2] w fun r w' => ∃ M, r = .returned (.tuple #[.pointer (some ⟨M, 0, none⟩), .int .i64 0]) ∧ Below w.heap.size w w' := by
  have HC := copyZ D 46 (by omega) (by omega) w hF
  have HO : Hid (∀ w1, Below w.heap.size w w1 → Calls Tryz.prog 27 #[.pointer (some ⟨D, 0, none⟩), .int .i64 40, .int .i64 6, .int .i64 2] w1 fun r w' => ∃ M, r = .returned (.tuple #[.pointer (some ⟨M, 0, none⟩), .int .i64 0]) ∧ Below w.heap.size w w') := fun w1 hb => by
    refine (overZ D w1 (hF.below hb (Nat.le_refl _))).mono ?_
    rintro r w' ⟨M, rfl, hb'⟩
    exact ⟨M, rfl, hb.trans (hb'.mono hb.size)⟩
  clear hF
  go_enter Tryz.func13, Tryz.ntmps13
  go_wp2_with first
    | (go_at_call 28; refine HC.mono ?_; clear HC; rintro r w1 ⟨D', rfl, hF1, hb1⟩; have H1 := overZ D' w1 hF1)
    | (go_at_call 27; refine H2.mono ?_; clear H2; rintro r w3 ⟨M3, rfl, hb3⟩)
    | (go_at_call 27; refine H1.mono ?_; clear H1; rintro r w2 ⟨M2, rfl, hb2⟩; have H2 := HO.out w2 (hb1.trans (hb2.mono hb1.size)); clear HO)
  go_ret2
  exact ⟨_, rfl, hb3⟩
end Go.Proofs.YtcifjpgimekcjaaGreatDoor
