/-
  Spaces and transactions that no call made: what their methods answer.
-/
import Derived.Test.YtdackomidfofgaaStO
namespace Go.Proofs.Ytdackomidfofgaa
open Go.RowKit Go.Maps
set_option linter.unusedVariables false
set_option maxRecDepth 100000
set_option maxHeartbeats 2000000

/-- A transaction that no call made: none, or the zero one. -/
def NobT (w : World) (v : Value) : Prop := v = .pointer none ∨ ∃ b, v = .pointer (some ⟨b, 0, none⟩) ∧ w.cell? ⟨b, 0, none⟩ = some (.pointer none)
def NobS (w : World) (v : Value) : Prop := v = .pointer none ∨ ∃ b, v = .pointer (some ⟨b, 0, none⟩) ∧ w.cell? ⟨b, 1, none⟩ = some (.map none)
theorem NobT.below {w w' : World} {v : Value} (h : NobT w v) (hb : Below w.heap.size w w') : NobT w' v := by
  rcases h with h | ⟨b, h, hc⟩
  · exact .inl h
  · exact .inr ⟨b, h, (hb.cell (p := ⟨b, 0, none⟩) (World.block_lt_of_cell? w _ hc)).trans hc⟩
theorem NobS.below {w w' : World} {v : Value} (h : NobS w v) (hb : Below w.heap.size w w') : NobS w' v := by
  rcases h with h | ⟨b, h, hc⟩
  · exact .inl h
  · exact .inr ⟨b, h, (hb.cell (p := ⟨b, 1, none⟩) (World.block_lt_of_cell? w _ hc)).trans hc⟩
theorem n_smiss {w : World} {v : Value} (h : NobS w v) : Calls Try.prog 30 #[v] w fun e w' => e = .returned (.bool true) ∧ w' = w := by
  have qT : ∀ (w : World) (r : Option Nat), (binOp .eql 60 (.map r) (.map none)).run Try.prog w = .ok (.bool r.isNone) w := fun w r => run_eql_map_nil w _ _ _ r Try.underlying60
  rcases h with rfl | ⟨b, rfl, hc⟩
  all_goals
    go_enter Try.func30, Try.ntmps30
    go_wp2
    go_ret
    exact ⟨rfl, rfl⟩
theorem n_tmiss {w : World} {v : Value} (h : NobT w v) : Calls Try.prog 32 #[v] w fun e w' => e = .returned (.bool true) ∧ w' = w := by
  rcases h with rfl | ⟨b, rfl, hc⟩
  all_goals
    go_enter Try.func32, Try.ntmps32
    go_wp2
    go_ret
    exact ⟨rfl, rfl⟩
theorem n_begin {w : World} {v : Value} (h : NobS w v) : Calls Try.prog 8 #[v] w fun e w' => e = .returned (.tuple #[.pointer none, .int .i64 2]) ∧ w' = w := by
  have HM := n_smiss h
  clear h
  go_enter Try.func8, Try.ntmps8
  go_wp2_with (go_at_call 30; refine HM.mono ?_; rintro e w' ⟨rfl, rfl⟩)
  go_ret2
  exact ⟨rfl, rfl⟩
theorem n_clock {w : World} {v : Value} (h : NobS w v) : Calls Try.prog 24 #[v] w fun e w' => e = .returned (.int .i64 0) ∧ w' = w := by
  have HM := n_smiss h
  clear h
  go_enter Try.func24, Try.ntmps24
  go_wp2_with (go_at_call 30; refine HM.mono ?_; rintro e w' ⟨rfl, rfl⟩)
  go_ret
  exact ⟨rfl, rfl⟩
theorem n_slots {w : World} {v : Value} (h : NobS w v) : Calls Try.prog 21 #[v] w fun e w' => e = .returned (.slice none 0 0) ∧ w' = w := by
  have HM := n_smiss h
  clear h
  go_enter Try.func21, Try.ntmps21
  go_wp2_with (go_at_call 30; refine HM.mono ?_; rintro e w' ⟨rfl, rfl⟩)
  go_ret
  exact ⟨rfl, rfl⟩
theorem n_writes {w : World} {v : Value} (h : NobT w v) : Calls Try.prog 11 #[v] w fun e w' => e = .returned (.slice none 0 0) ∧ w' = w := by
  have HM := n_tmiss h
  clear h
  go_enter Try.func11, Try.ntmps11
  go_wp2_with (go_at_call 32; refine HM.mono ?_; rintro e w' ⟨rfl, rfl⟩)
  go_ret
  exact ⟨rfl, rfl⟩
theorem n_reads {w : World} {v : Value} (h : NobT w v) : Calls Try.prog 27 #[v] w fun e w' => e = .returned (.slice none 0 0) ∧ w' = w := by
  have HM := n_tmiss h
  clear h
  go_enter Try.func27, Try.ntmps27
  go_wp2_with (go_at_call 32; refine HM.mono ?_; rintro e w' ⟨rfl, rfl⟩)
  go_ret
  exact ⟨rfl, rfl⟩
theorem n_phase {w : World} {v : Value} (h : NobT w v) : Calls Try.prog 18 #[v] w fun e w' => e = .returned (.int .i64 4) ∧ w' = w := by
  have HM := n_tmiss h
  clear h
  go_enter Try.func18, Try.ntmps18
  go_wp2_with (go_at_call 32; refine HM.mono ?_; rintro e w' ⟨rfl, rfl⟩)
  go_ret
  exact ⟨rfl, rfl⟩
theorem n_refuse {w : World} {v : Value} (h : NobT w v) (u : Value) : Calls Try.prog 38 #[v, u] w fun e w' => e = .returned (.int .i64 2) ∧ w' = w := by
  have HM := n_tmiss h
  clear h
  go_enter Try.func38, Try.ntmps38
  go_wp2_with (go_at_call 32; refine HM.mono ?_; rintro e w' ⟨rfl, rfl⟩)
  go_ret
  exact ⟨rfl, rfl⟩
theorem n_refName {w : World} {v : Value} (h : NobT w v) (u : Value) : Calls Try.prog 34 #[v, u] w fun e w' => e = .returned (.int .i64 2) ∧ Below w.heap.size w w' := by
  have hB : Below w.heap.size w (w.alloc (.cells #[.int .i64 0] 3)) := (Below.refl _ w).alloc (Nat.le_refl _) _
  have HR := n_refuse (h.below hB)
  have HB : Hid (Below w.heap.size w (w.alloc (.cells #[.int .i64 0] 3))) := hB
  clear h hB
  go_enter Try.func34, Try.ntmps34
  go_wp2_with (go_at_call 38; refine (HR _).mono ?_; rintro e w' ⟨rfl, rfl⟩)
  go_ret
  exact ⟨rfl, HB.out⟩
theorem n_get {w : World} {v : Value} (h : NobT w v) (u : Value) : Calls Try.prog 14 #[v, u] w fun e w' => e = .returned (.tuple #[.slice none 0 0, .int .i64 2]) ∧ Below w.heap.size w w' := by
  have HR := n_refName h u
  clear h
  go_enter Try.func14, Try.ntmps14
  go_wp2_with (go_at_call 34; refine HR.mono ?_; rintro e w' ⟨rfl, hb⟩)
  go_ret2
  exact ⟨rfl, hb⟩
theorem n_put {w : World} {v : Value} (h : NobT w v) (u u2 : Value) : Calls Try.prog 16 #[v, u, u2] w fun e w' => e = .returned (.int .i64 2) ∧ Below w.heap.size w w' := by
  have HR := n_refName h u
  clear h
  go_enter Try.func16, Try.ntmps16
  go_wp2_with (go_at_call 34; refine HR.mono ?_; rintro e w' ⟨rfl, hb⟩)
  go_ret
  exact ⟨rfl, hb⟩
theorem n_check {w : World} {v : Value} (h : NobT w v) : Calls Try.prog 19 #[v] w fun e w' => e = .returned (.int .i64 2) ∧ Below w.heap.size w w' := by
  have hB : Below w.heap.size w (w.alloc (.cells #[.int .i64 1, .int .i64 2] 3)) := (Below.refl _ w).alloc (Nat.le_refl _) _
  have HR := n_refuse (h.below hB)
  have HB : Hid (Below w.heap.size w (w.alloc (.cells #[.int .i64 1, .int .i64 2] 3))) := hB
  clear h hB
  go_enter Try.func19, Try.ntmps19
  go_wp2_with (go_at_call 38; refine (HR _).mono ?_; rintro e w' ⟨rfl, rfl⟩)
  go_ret
  exact ⟨rfl, HB.out⟩
theorem n_abort {w : World} {v : Value} (h : NobT w v) : Calls Try.prog 25 #[v] w fun e w' => e = .returned (.int .i64 2) ∧ Below w.heap.size w w' := by
  have hB : Below w.heap.size w (w.alloc (.cells #[.int .i64 0, .int .i64 1, .int .i64 2] 3)) := (Below.refl _ w).alloc (Nat.le_refl _) _
  have HR := n_refuse (h.below hB)
  have HB : Hid (Below w.heap.size w (w.alloc (.cells #[.int .i64 0, .int .i64 1, .int .i64 2] 3))) := hB
  clear h hB
  go_enter Try.func25, Try.ntmps25
  go_wp2_with (go_at_call 38; refine (HR _).mono ?_; rintro e w' ⟨rfl, rfl⟩)
  go_ret
  exact ⟨rfl, HB.out⟩
theorem n_drop {w : World} {v : Value} (h : NobT w v) : Calls Try.prog 26 #[v] w fun e w' => e = .returned (.int .i64 2) ∧ Below w.heap.size w w' := by
  have hB : Below w.heap.size w (w.alloc (.cells #[.int .i64 0] 3)) := (Below.refl _ w).alloc (Nat.le_refl _) _
  have HR := n_refuse (h.below hB)
  have HB : Hid (Below w.heap.size w (w.alloc (.cells #[.int .i64 0] 3))) := hB
  clear h hB
  go_enter Try.func26, Try.ntmps26
  go_wp2_with (go_at_call 38; refine (HR _).mono ?_; rintro e w' ⟨rfl, rfl⟩)
  go_ret
  exact ⟨rfl, HB.out⟩
theorem box_cell {w : World} {a : Option Addr} {t : TypeId} (o : Obj) : ((w.alloc (.cells #[.pointer a] t)).alloc o).cell? ⟨w.heap.size, 0, none⟩ = some (.pointer a) := by
  have h1 := (Below.heap_alloc (w.alloc (.cells #[.pointer a] t)) o w.heap.size (by simp)).trans (World.alloc_heap_new w (.cells #[.pointer a] t))
  rw [cells_at h1 0]; rfl
theorem n_lock {w : World} {v : Value} (h : NobT w v) : Calls Try.prog 17 #[v] w fun e w' => e = .returned (.int .i64 2) ∧ Below w.heap.size w w' := by
  obtain ⟨a, rfl⟩ : ∃ a, v = .pointer a := by rcases h with h | ⟨b, h, _⟩ <;> exact ⟨_, h⟩
  have hB : Below w.heap.size w (((w.alloc (.cells #[.pointer a] 33)).alloc (.cells #[.int .i64 0] 24)).alloc (.cells #[.int .i64 0] 3)) := (((Below.refl _ w).alloc (Nat.le_refl _) _).alloc (by simp) _).alloc (by simp; omega) _
  have HR := n_refuse (h.below hB)
  have hr : (((w.alloc (.cells #[.pointer a] 33)).alloc (.cells #[.int .i64 0] 24)).alloc (.cells #[.int .i64 0] 3)).heap[w.heap.size + 1]? = some (.cells #[.int .i64 0] 24 (0, 0)) := by
    have := World.alloc_heap_new (w.alloc (.cells #[.pointer a] 33)) (.cells #[.int .i64 0] 24)
    rw [World.size_alloc] at this
    exact (Below.heap_alloc _ _ _ (by simp)).trans this
  have cr : (((w.alloc (.cells #[.pointer a] 33)).alloc (.cells #[.int .i64 0] 24)).alloc (.cells #[.int .i64 0] 3)).cell? ⟨w.heap.size + 1, 0, none⟩ = some (.int .i64 0) := by rw [cells_at hr 0]; rfl
  have fr : (((w.alloc (.cells #[.pointer a] 33)).alloc (.cells #[.int .i64 0] 24)).alloc (.cells #[.int .i64 0] 3)).frozen? ⟨w.heap.size + 1, 0, none⟩ = false := cells_free hr 0
  have cb := box_cell (w := w) (a := a) (t := 33) (.cells #[.int .i64 0] 24)
  have HB : Hid (Below w.heap.size w (((w.alloc (.cells #[.pointer a] 33)).alloc (.cells #[.int .i64 2] 24)).alloc (.cells #[.int .i64 0] 3))) := (((Below.refl _ w).alloc (Nat.le_refl _) _).alloc (by simp) _).alloc (by simp; omega) _
  clear h hB hr
  go_enter Try.func17, Try.ntmps17
  go_wp2_with (go_at_call 38; refine (HR _).mono ?_; rintro e w' ⟨rfl, rfl⟩)
  refine bodyPost_ret (v := .int .i64 2) (by simp [results, Try.results17, go_sem]) rfl ?_
  exact ⟨rfl, HB.out⟩
theorem n_publish {w : World} {v : Value} (h : NobT w v) : Calls Try.prog 20 #[v] w fun e w' => e = .returned (.int .i64 2) ∧ Below w.heap.size w w' := by
  obtain ⟨a, rfl⟩ : ∃ a, v = .pointer a := by rcases h with h | ⟨b, h, _⟩ <;> exact ⟨_, h⟩
  have hB : Below w.heap.size w ((w.alloc (.cells #[.pointer a] 33)).alloc (.cells #[.int .i64 2] 3)) := ((Below.refl _ w).alloc (Nat.le_refl _) _).alloc (by simp) _
  have HR := n_refuse (h.below hB)
  have cb : (w.alloc (.cells #[.pointer a] 33)).cell? ⟨w.heap.size, 0, none⟩ = some (.pointer a) := by rw [cells_at (World.alloc_heap_new w (.cells #[.pointer a] 33)) 0]; rfl
  have HB : Hid (Below w.heap.size w ((w.alloc (.cells #[.pointer a] 33)).alloc (.cells #[.int .i64 2] 3))) := hB
  clear h hB
  go_enter Try.func20, Try.ntmps20
  go_wp2_with (go_at_call 38; refine (HR _).mono ?_; rintro e w' ⟨rfl, rfl⟩)
  go_ret
  exact ⟨rfl, HB.out⟩
end Go.Proofs.Ytdackomidfofgaa
