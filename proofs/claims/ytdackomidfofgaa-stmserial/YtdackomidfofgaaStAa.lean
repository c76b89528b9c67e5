/-
  Lock and Publish in a phase in which they may not be called.
-/
import Derived.Test.YtdackomidfofgaaStZ
import Derived.Test.YtdackomidfofgaaStT
namespace Go.Proofs.Ytdackomidfofgaa
open Go.RowKit Go.Maps
set_option linter.unusedVariables false
set_option linter.unusedSimpArgs false
set_option maxRecDepth 100000
set_option maxHeartbeats 2000000
attribute [local go_sem] Oper.semAt_some

theorem t_lock_no {w : World} {S : Sm} {T : Tm} (hT : Txc w S T) (hp0 : T.ph ≠ 0) :
    Calls Try.prog 17 #[.pointer (some ⟨T.t, 0, none⟩)] w fun e w' => e = .returned (.int .i64 3) ∧ Below w.heap.size w w' := by
  obtain ⟨w0, hw0⟩ : ∃ w0, w0 = (w.alloc (.cells #[.pointer (some ⟨T.t, 0, none⟩)] 33)).alloc (.cells #[.int .i64 0] 24) := ⟨_, rfl⟩
  obtain ⟨w1, hw1⟩ : ∃ w1, w1 = w0.alloc (.cells #[.int .i64 0] 3) := ⟨_, rfl⟩
  have hs0 : w0.heap.size = w.heap.size + 2 := by rw [hw0]; simp
  have hs1 : w1.heap.size = w.heap.size + 3 := by rw [hw1]; simp [hs0]
  have hB0 : Below w.heap.size w w0 := by rw [hw0]; exact ((Below.refl _ w).alloc (Nat.le_refl _) _).alloc (by simp) _
  have hB01 : Below w0.heap.size w0 w1 := by rw [hw1]; exact (Below.refl _ w0).alloc (Nat.le_refl _) _
  have hB1 : Below w.heap.size w w1 := hB0.trans (hB01.mono hB0.size)
  have hbx0 : w0.heap[w.heap.size]? = some (.cells #[.pointer (some ⟨T.t, 0, none⟩)] 33 (0, 0)) := by
    rw [hw0, Below.heap_alloc _ _ _ (by simp)]
    exact World.alloc_heap_new w _
  have hbr0 : w0.heap[w.heap.size + 1]? = some (.cells #[.int .i64 0] 24 (0, 0)) := by
    have := World.alloc_heap_new (w.alloc (.cells #[.pointer (some ⟨T.t, 0, none⟩)] 33)) (.cells #[.int .i64 0] 24)
    rw [World.size_alloc, ← hw0] at this
    exact this
  have hbr1 := (hB01.block _ (by omega)).trans hbr0
  have hph : w1.heap[w.heap.size + 2]? = some (.cells #[.int .i64 0] 3 (0, 0)) := by
    have := World.alloc_heap_new w0 (.cells #[.int .i64 0] 3)
    rw [← hw1, hs0] at this
    exact this
  have cx0 : w0.cell? ⟨w.heap.size, 0, none⟩ = some (.pointer (some ⟨T.t, 0, none⟩)) := by rw [cells_at hbx0 0]; rfl
  have cr : w1.cell? ⟨w.heap.size + 1, 0, none⟩ = some (.int .i64 0) := by rw [cells_at hbr1 0]; rfl
  have fr : w1.frozen? ⟨w.heap.size + 1, 0, none⟩ = false := cells_free hbr1 0
  have HZ : Hid (Below w.heap.size w (((w.alloc (.cells #[.pointer (some ⟨T.t, 0, none⟩)] 33)).alloc (.cells #[.int .i64 3] 24)).alloc (.cells #[.int .i64 0] 3))) := (((Below.refl _ w).alloc (Nat.le_refl _) _).alloc (by simp) _).alloc (by simp; omega) _
  have HR := t_refuse (hT.below hB1) (w.heap.size + 2) 1 [0] rfl (by decide) (fun j hj => cells_j (ps := [0]) hph j hj)
  have e1 : rf T.ph [0] = 3 := by unfold rf; simp [hp0]
  rw [e1] at HR
  refine (callsIn_wide (n := 8)).1 ?_
  have hro : Fence.wide.round = none := rfl
  refine callsIn_of_wp_marks Try.func17 rfl trivial ?_ hro
  simp only [Try.ntmps17, List.size_toArray, List.length_cons, List.length_nil, Nat.reduceAdd, Nat.reduceSub, Array.replicate_succ, Array.replicate_zero, List.push_toArray, List.append_toArray, List.nil_append, List.cons_append]
  rw [hw1, hw0] at HR cr fr
  rw [hw0] at cx0
  clear hw1 hw0 hs1 hs0 hbx0 hbr0 hph e1 hp0 hT hB0 hB01 hB1 hbr1
  gi_wp2_with (refine ⟨trivial, ?_⟩; gi_at_call 38; refine (callsIn_wide.2 HR).mono ?_; rintro e w' ⟨rfl, rfl⟩)
  exact ⟨.int .i64 3, by simp [results, Try.results17, go_sem], rfl, HZ.out⟩
theorem t_publish_no {w : World} {S : Sm} {T : Tm} (hT : Txc w S T) (hp0 : T.ph ≠ 2) :
    Calls Try.prog 20 #[.pointer (some ⟨T.t, 0, none⟩)] w fun e w' => e = .returned (.int .i64 3) ∧ Below w.heap.size w w' := by
  obtain ⟨w0, hw0⟩ : ∃ w0, w0 = w.alloc (.cells #[.pointer (some ⟨T.t, 0, none⟩)] 33) := ⟨_, rfl⟩
  obtain ⟨w1, hw1⟩ : ∃ w1, w1 = w0.alloc (.cells #[.int .i64 2] 3) := ⟨_, rfl⟩
  have hs0 : w0.heap.size = w.heap.size + 1 := by rw [hw0]; simp
  have hs1 : w1.heap.size = w.heap.size + 2 := by rw [hw1]; simp [hs0]
  have hB0 : Below w.heap.size w w0 := by rw [hw0]; exact (Below.refl _ w).alloc (Nat.le_refl _) _
  have hB01 : Below w0.heap.size w0 w1 := by rw [hw1]; exact (Below.refl _ w0).alloc (Nat.le_refl _) _
  have hB1 : Below w.heap.size w w1 := hB0.trans (hB01.mono hB0.size)
  have hbx0 : w0.heap[w.heap.size]? = some (.cells #[.pointer (some ⟨T.t, 0, none⟩)] 33 (0, 0)) := by rw [hw0]; exact World.alloc_heap_new w _
  have hph : w1.heap[w.heap.size + 1]? = some (.cells #[.int .i64 2] 3 (0, 0)) := by
    have := World.alloc_heap_new w0 (.cells #[.int .i64 2] 3)
    rw [← hw1, hs0] at this
    exact this
  have cx0 : w0.cell? ⟨w.heap.size, 0, none⟩ = some (.pointer (some ⟨T.t, 0, none⟩)) := by rw [cells_at hbx0 0]; rfl
  have HR := t_refuse (hT.below hB1) (w.heap.size + 1) 1 [2] rfl (by decide) (fun j hj => cells_j (ps := [2]) hph j hj)
  have e1 : rf T.ph [2] = 3 := by unfold rf; simp [hp0]
  rw [e1] at HR
  have HB : Hid (Below w.heap.size w w1) := hB1
  refine (callsIn_wide (n := 8)).1 ?_
  have hro : Fence.wide.round = none := rfl
  refine callsIn_of_wp_marks Try.func20 rfl trivial ?_ hro
  simp only [Try.ntmps20, List.size_toArray, List.length_cons, List.length_nil, Nat.reduceAdd, Nat.reduceSub, Array.replicate_succ, Array.replicate_zero, List.push_toArray, List.append_toArray, List.nil_append, List.cons_append]
  rw [hw1, hw0] at HR HB
  rw [hw0] at cx0
  clear hw1 hw0 hs1 hs0 hbx0 hph e1 hp0 hT hB0 hB01 hB1
  gi_wp2_with (refine ⟨trivial, ?_⟩; gi_at_call 38; refine (callsIn_wide.2 HR).mono ?_; rintro e w' ⟨rfl, rfl⟩)
  exact ⟨_, results_tmp rfl _ _ _, rfl, HB.out⟩
end Go.Proofs.Ytdackomidfofgaa
