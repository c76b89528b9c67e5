/-
  A new disk of the document's, of three sectors; SessionNobody's walk.
-/
import Derived.Test.YtgfnobnlaedmkaaGreatDoorSnB
import Derived.Test.YtgfnobnlaedmkaaGreatDoorHpM
import Derived.Deep.RegionLaw
namespace Go.Proofs.YtgfnobnlaedmkaaGreatDoor
open Go.RowKit
set_option linter.unusedVariables false

theorem infoB : (Tryz.prog.info? 27).map (fun i => (i.zero, i.size, i.bytes)) = some (some (.slice none 0 0), 1, 24) := by kernel_rfl
theorem info5 : (Tryz.prog.info? 5).map (fun i => (i.zero, i.size, i.bytes)) = some (some (.int .u8 0), 1, 1) := by kernel_rfl
/-- New behind k rounds. -/
def NewK (w : World) (X B k : Nat) (vB : Value) : Prop := ∃ xs, w.heap[X]? = some (.cells #[vB, .slice none 0 0] 53 (0, 0)) ∧ w.ownsRow B 27 1 vB k xs
theorem row_no {w : World} {B : Nat} {v : Value} {k : Nat} {xs : List Value} {X : Nat} {cs : Array Value} (h : w.ownsRow B 27 1 v k xs) (hX : w.heap[X]? = some (.cells cs 53 (0, 0))) : v.ownBlock ≠ some X := fun e => by
  rcases h.2 with ⟨rfl, _⟩ | ⟨g, cap, cur, rfl, _, hg, _⟩
  · cases e
  · obtain rfl : g = X := Option.some.inj e
    rw [hg] at hX
    cases hX
set_option maxRecDepth 100000 in
set_option maxHeartbeats 2000000 in
theorem new3 (w : World) :
    Calls Tryz.prog 10 #[.int .i64 3] w fun e w' => ∃ X a c, e = .returned (.tuple #[.pointer (some ⟨X, 0, none⟩), .int .i64 0]) ∧ w'.cell? ⟨X, 0, none⟩ = some (.slice a 3 c) ∧ Below w.heap.size w w' := by
  obtain ⟨i0, hi0, hz0, hz1, hz2⟩ := info_parts infoB
  obtain ⟨MB, hMB⟩ : ∃ MB, madeCells #[.int .u8 0] 128 = MB := ⟨_, rfl⟩
  have hmb : ∀ w : World, (Instr.makeSlice 27 (.int .i64 128) (.int .i64 128)).run Tryz.prog w = .ok (.slice (some ⟨w.heap.size, 0, none⟩) 128 128) (w.alloc (.cells MB 5)) := fun w => by
    rw [← hMB]
    exact run_make_row' (P := Tryz.prog) 27 5 (.int .u8 0) 1 Tryz.underlying27 info5 rfl .i64 .i64 128 (by omega) (by omega) w
  have H0 : Hid (NewK (w.alloc (.cells #[.slice none 0 0, .slice none 0 0] 53)) w.heap.size w.heap.size 0 (.slice none 0 0)) := ⟨[], heap_alloc_at _ _ _ rfl, World.ownsRow_nil _ _ _ _⟩
  have HB0 : Hid (Below w.heap.size w (w.alloc (.cells #[.slice none 0 0, .slice none 0 0] 53))) := (Below.refl _ w).alloc (Nat.le_refl _) _
  clear hMB
  go_enter Tryz.func10, Tryz.ntmps10
  go_wp2
  go_loopw [14] (fun i wr => ∃ (k : Nat) (vB : Value), k ≤ 3 ∧ i = .int .i64 (k : Int) ∧ Hid (NewK wr w.heap.size w.heap.size k vB) ∧ Below w.heap.size w wr) (fun i _ => 3 - (intOf i).toNat)
  case atStart => exact ⟨0, _, Nat.zero_le _, rfl, H0.out, HB0.out⟩
  case round =>
    obtain ⟨k, vB, hk, rfl, HN, hb⟩ := hrel
    by_cases hlt : k < 3
    · have hlt' : (k : Int) < 3 := by omega
      obtain ⟨xs, hX1, hM⟩ := HN.out
      have hs := hb.size
      have hXl : w.heap.size < wr.heap.size := (Array.getElem?_eq_some_iff.1 hX1).1
      obtain ⟨aB, cB, rfl⟩ : ∃ aB cB, vB = .slice aB k cB := by
        rcases hM.2 with ⟨rfl, h0⟩ | ⟨g, cap, cur, rfl, _⟩
        · rw [h0]; exact ⟨none, 0, rfl⟩
        · exact ⟨_, cap, rfl⟩
      have q0 : wr.cell? ⟨w.heap.size, 0, none⟩ = some (.slice aB k cB) := cells_at hX1 0
      have q1 : ∀ o, (wr.alloc o).cell? ⟨w.heap.size, 0, none⟩ = some (.slice aB k cB) := fun o => (World.cell?_alloc_past (w := wr) o w.heap.size 0 hXl).trans q0
      have q2 : ∀ o o', ((wr.alloc o).alloc o').cell? ⟨w.heap.size, 0, none⟩ = some (.slice aB k cB) := fun o o' => (World.cell?_alloc_past (w := wr.alloc o) o' w.heap.size 0 (by simp; omega)).trans (q1 o)
      have HRw : Hid ((((wr.drew).alloc (.cells MB 5)).alloc (.cells #[.slice (some ⟨wr.heap.size, 0, none⟩) 128 128] 27)).ownsRow w.heap.size 27 1 (.slice aB k cB) k xs) := World.ownsRow.alloc (World.ownsRow.alloc (row_heap hM rfl) _) _
      have HCe : Hid ((((wr.drew).alloc (.cells MB 5)).alloc (.cells #[.slice (some ⟨wr.heap.size, 0, none⟩) 128 128] 27)).cell? ⟨wr.heap.size + 1, 0, none⟩ = some (.slice (some ⟨wr.heap.size, 0, none⟩) 128 128)) := (by rw [World.cell?_alloc_at _ _ _ _ (by simp)]; rfl : (((wr.drew).alloc (.cells MB 5)).alloc (.cells #[.slice (some ⟨wr.heap.size, 0, none⟩) 128 128] 27)).cell? ⟨wr.heap.size + 1, 0, none⟩ = some (.slice (some ⟨wr.heap.size, 0, none⟩) 128 128))
      have HSz : Hid (w.heap.size ≤ (((wr.drew).alloc (.cells MB 5)).alloc (.cells #[.slice (some ⟨wr.heap.size, 0, none⟩) 128 128] 27)).heap.size) := (by simp; omega : w.heap.size ≤ (((wr.drew).alloc (.cells MB 5)).alloc (.cells #[.slice (some ⟨wr.heap.size, 0, none⟩) 128 128] 27)).heap.size)
      have HQ : Hid (∀ v2 w2, w2.ownsRow w.heap.size 27 1 v2 (k + 1) (xs ++ [.slice (some ⟨wr.heap.size, 0, none⟩) 128 128]) → (((wr.drew).alloc (.cells MB 5)).alloc (.cells #[.slice (some ⟨wr.heap.size, 0, none⟩) 128 128] 27)).grownBy w2 (Value.slice aB k cB).ownBlock →
          (∃ a2 c2, v2 = .slice a2 (k + 1) c2) ∧ w2.cell? ⟨w.heap.size, 0, none⟩ = some (.slice aB k cB) ∧ w2.frozen? ⟨w.heap.size, 0, none⟩ = false ∧ Hid (∀ wf : World, wf.heap = (w2.setCell ⟨w.heap.size, 0, none⟩ v2).heap → wf.os = w2.os → wf.tape = w2.tape → wf.output = w2.output → NewK wf w.heap.size w.heap.size (k + 1) v2 ∧ Below w.heap.size w wf)) := fun v2 w2 h2 hg2 => by
        have hb1 : Below wr.heap.size wr ((wr.drew).alloc (.cells MB 5)) := ((Below.refl wr.heap.size wr).drew).alloc (Nat.le_refl _) _
        have hX2 : w2.heap[w.heap.size]? = some (.cells #[.slice aB k cB, .slice none 0 0] 53 (0, 0)) := by
          rw [hg2.block w.heap.size (by simp; omega) (fun e => row_no hM hX1 e.symm), Below.heap_alloc _ _ _ (by simp; omega), Below.heap_alloc _ _ _ (by exact hXl)]
          exact hX1
        have n2 : v2.ownBlock ≠ some w.heap.size := row_no h2 hX2
        refine ⟨?_, cells_at hX2 0, cells_free hX2 0, fun wf e1 e3 e4 e5 => ⟨⟨_, ?_, row_heap (row_set h2 n2 0 v2) e1⟩, ?_⟩⟩
        · rcases h2.2 with ⟨_, h0⟩ | ⟨g, cap, cur, rfl, _⟩
          · omega
          · exact ⟨_, cap, rfl⟩
        · rw [e1, heap_set_at hX2]; rfl
        · have b2 : Below w.heap.size w w2 := ((hb.trans (hb1.mono hs)).alloc (by simp; omega) _).grown hg2 HSz.out (fun q hq => (World.ownsRow.lt hM q hq).1)
          have b3 := b2.setCell (p := ⟨w.heap.size, 0, none⟩) (Nat.le_refl _) v2
          exact ⟨e3.trans b2.os, e4.trans b2.tape, e5.trans b2.output, by rw [e1]; exact b3.size, fun q hq => by rw [e1]; exact b3.block q hq⟩
      clear hX1 hM HN
      go_wp2
      go_region_law (refine step_append_own_at rfl _ _ 50 rfl w.heap.size 27 i0 (.slice none 0 0) 1 24 Tryz.underlying50 hi0 hz0 hz1 hz2 rfl (by decide) (.slice aB k cB) k xs (by go_simp) (by exact HRw.out) ⟨wr.heap.size + 1, 0, none⟩ 1 1 [.slice (some ⟨wr.heap.size, 0, none⟩) 128 128] (by go_simp) rfl (by intro j u hj; have hj0 : j = 0 := (by have := (List.getElem?_eq_some_iff.1 hj).1; simp at this; omega); subst hj0; rw [Addr.add_lit, Nat.zero_add]; refine Eq.trans (by exact HCe.out) ?_; simpa using hj) (by intro u hu; simp at hu; rw [hu]; rfl) (by unfold maxLen; omega) (by omega) (by exact HSz.out) ?_; intro v2 w2 ho2 hg2 ha2; obtain ⟨⟨a2, c2, hv2⟩, x1, x2, HE⟩ := HQ.out v2 w2 ho2 hg2; subst hv2; clear ho2 hg2 ha2)
      all_goals
        have HE2 := HE
        clear HE
        go_wp2
        go_roundw
        case rel =>
          obtain ⟨z1, z2⟩ := HE2.out _ (by rfl) (by rfl) (by rfl) (by rfl)
          exact ⟨k + 1, _, by omega, by go_num, z1, z2⟩
        case measure => simp [intOf]; omega
    · obtain rfl : k = 3 := by omega
      have HZ : Hid (∃ a c, wr.cell? ⟨w.heap.size, 0, none⟩ = some (.slice a 3 c)) := by
        obtain ⟨xs, hX1, hM⟩ := HN.out
        rcases hM.2 with ⟨_, h0⟩ | ⟨g, cap, cur, rfl, _⟩
        · cases h0
        · exact ⟨_, _, cells_at hX1 0⟩
      clear HN
      go_wp2
      go_ret2
      obtain ⟨a, c, hz⟩ := HZ.out
      exact ⟨_, a, c, rfl, hz, hb⟩
end Go.Proofs.YtgfnobnlaedmkaaGreatDoor
