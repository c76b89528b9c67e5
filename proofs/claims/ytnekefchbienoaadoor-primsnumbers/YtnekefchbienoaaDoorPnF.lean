/-
  The document's side of PrimsNumbers: Can of a number's datum, values that are numbers.
-/
import Derived.Test.YtnekefchbienoaaDoorPnE
namespace Go.Proofs.YtnekefchbienoaaDoor
open Go.RowKit
set_option linter.unusedVariables false

/-- A number's datum. -/
def dnum (s : ByteArray) : Value := .agg #[.int .i64 1, .string s, .slice none 0 0, .slice none 0 0]
theorem z_may {s : ByteArray} {b : Bool} (hc : ∀ w, Calls Tryd.prog 34 #[.string s] w fun e w' => e = .returned (.bool b) ∧ w' = w) (w : World) : Calls Tryd.prog 17 #[.agg #[.int .i64 1, .string s, .slice none 0 0, .slice none 0 0], .int .i64 66] w fun r w' => r = .returned (.bool b) ∧ Below w.heap.size w w' := by
  have HC : Hid (∀ w, Calls Tryd.prog 34 #[.string s] w fun e w' => e = .returned (.bool b) ∧ w' = w) := hc
  obtain ⟨o, ho⟩ : ∃ o, Obj.cells #[.int .i64 1, .string s, .slice none 0 0, .slice none 0 0] 30 = o := ⟨_, rfl⟩
  have bo : Below w.heap.size w (w.alloc o) := (Below.refl _ w).alloc (Nat.le_refl _) o
  have hb : (w.alloc o).heap[w.heap.size]? = some (.cells #[.int .i64 1, .string s, .slice none 0 0, .slice none 0 0] 30 (0, 0)) := by rw [← ho]; exact heap_alloc_at _ _ _ rfl
  have c0 : (w.alloc o).cell? ⟨w.heap.size, 0, none⟩ = some (.int .i64 1) := by rw [cells_at hb 0]; rfl
  have c1 : (w.alloc o).cell? ⟨w.heap.size, 1, none⟩ = some (.string s) := by rw [cells_at hb 1]; rfl
  have c2 : (w.alloc o).cell? ⟨w.heap.size, 2, none⟩ = some (.slice none 0 0) := by rw [cells_at hb 2]; rfl
  have c3 : (w.alloc o).cell? ⟨w.heap.size, 3, none⟩ = some (.slice none 0 0) := by rw [cells_at hb 3]; rfl
  clear hc hb
  go_enter Tryd.func17, Tryd.ntmps17
  go_wp2_with fail
  try rw [ho]
  refine (HC.out _).mono ?_
  rintro r w1 ⟨rfl, hw⟩
  obtain rfl : w.alloc o = w1 := hw.symm
  clear hw
  go_wp2
  go_ret
  exact ⟨rfl, bo⟩
theorem z_depth (s : ByteArray) (w : World) : Calls Tryd.prog 18 #[.agg #[.int .i64 1, .string s, .slice none 0 0, .slice none 0 0], .int .i64 66] w fun r w' => r = .returned (.int .i64 0) ∧ Below w.heap.size w w' := by
  obtain ⟨o, ho⟩ : ∃ o, Obj.cells #[.int .i64 1, .string s, .slice none 0 0, .slice none 0 0] 30 = o := ⟨_, rfl⟩
  have bo : Below w.heap.size w (w.alloc o) := (Below.refl _ w).alloc (Nat.le_refl _) o
  have hb : (w.alloc o).heap[w.heap.size]? = some (.cells #[.int .i64 1, .string s, .slice none 0 0, .slice none 0 0] 30 (0, 0)) := by rw [← ho]; exact heap_alloc_at _ _ _ rfl
  have c0 : (w.alloc o).cell? ⟨w.heap.size, 0, none⟩ = some (.int .i64 1) := by rw [cells_at hb 0]; rfl
  clear hb
  go_enter Tryd.func18, Tryd.ntmps18
  go_wp2
  try rw [ho]
  go_ret
  exact ⟨rfl, bo⟩
theorem z_can {s : ByteArray} {b : Bool} (hc : ∀ w, Calls Tryd.prog 34 #[.string s] w fun e w' => e = .returned (.bool b) ∧ w' = w) (w : World) : Calls Tryd.prog 6 #[.agg #[.int .i64 1, .string s, .slice none 0 0, .slice none 0 0]] w fun r w' => r = .returned (.bool b) ∧ Below w.heap.size w w' := by
  obtain ⟨o, ho⟩ : ∃ o, Obj.cells #[.int .i64 1, .string s, .slice none 0 0, .slice none 0 0] 30 = o := ⟨_, rfl⟩
  have bo : Below w.heap.size w (w.alloc o) := (Below.refl _ w).alloc (Nat.le_refl _) o
  have hb : (w.alloc o).heap[w.heap.size]? = some (.cells #[.int .i64 1, .string s, .slice none 0 0, .slice none 0 0] 30 (0, 0)) := by rw [← ho]; exact heap_alloc_at _ _ _ rfl
  have HS : Hid (∀ wq, Below (w.alloc o).heap.size (w.alloc o) wq → wq.cell? ⟨w.heap.size, 0, none⟩ = some (.int .i64 1) ∧ wq.cell? ⟨w.heap.size, 1, none⟩ = some (.string s) ∧ wq.cell? ⟨w.heap.size, 2, none⟩ = some (.slice none 0 0) ∧ wq.cell? ⟨w.heap.size, 3, none⟩ = some (.slice none 0 0)) := fun wq hq => by
    have hb2 := (hq.block w.heap.size (by simp)).trans hb
    exact ⟨by rw [cells_at hb2 0]; rfl, by rw [cells_at hb2 1]; rfl, by rw [cells_at hb2 2]; rfl, by rw [cells_at hb2 3]; rfl⟩
  have HM : Hid (∀ wq, Below (w.alloc o).heap.size (w.alloc o) wq → Calls Tryd.prog 17 #[.agg #[.int .i64 1, .string s, .slice none 0 0, .slice none 0 0], .int .i64 66] wq fun r w' => r = .returned (.bool b) ∧ Hid (Below (w.alloc o).heap.size (w.alloc o) w')) := fun wq hq => (z_may hc wq).mono fun r w' ⟨hr, hb⟩ => ⟨hr, hq.trans (hb.mono hq.size)⟩
  have HD : Hid (∀ wq, Below (w.alloc o).heap.size (w.alloc o) wq → Calls Tryd.prog 18 #[.agg #[.int .i64 1, .string s, .slice none 0 0, .slice none 0 0], .int .i64 66] wq fun r w' => r = .returned (.int .i64 0) ∧ Hid (Below (w.alloc o).heap.size (w.alloc o) w')) := fun wq hq => (z_depth s wq).mono fun r w' ⟨hr, hb⟩ => ⟨hr, hq.trans (hb.mono hq.size)⟩
  have HB : Hid (∀ wq, Below (w.alloc o).heap.size (w.alloc o) wq → Below w.heap.size w wq) := fun wq hq => bo.trans (hq.mono bo.size)
  have k0 : Hid (Below (w.alloc o).heap.size (w.alloc o) (w.alloc o)) := Below.refl _ _
  obtain ⟨c0, c1, c2, c3⟩ := HS.out _ k0.out
  clear hc hb bo
  generalize hW : w.alloc o = W at *
  cases b with
  | false =>
    go_enter Tryd.func6, Tryd.ntmps6
    go_wp2_with fail
    try rw [ho]
    try rw [hW]
    refine (HM.out _ k0.out).mono ?_
    rintro r w1 ⟨rfl, k1⟩
    go_wp2
    go_ret
    exact ⟨rfl, HB.out _ k1.out⟩
  | true =>
    go_enter Tryd.func6, Tryd.ntmps6
    go_wp2_with fail
    try rw [ho]
    try rw [hW]
    refine (HM.out _ k0.out).mono ?_
    rintro r w1 ⟨rfl, k1⟩
    obtain ⟨d0, d1, d2, d3⟩ := HS.out _ k1.out
    go_wp2_with fail
    refine (HD.out _ k1.out).mono ?_
    rintro r w2 ⟨rfl, k2⟩
    go_wp2
    go_ret
    exact ⟨rfl, HB.out _ k2.out⟩
theorem v_small (n : Int) (w : World) (h1 : -4611686018427387904 ≤ n) (h2 : n ≤ 4611686018427387903) : Calls Tryd.prog 22 #[.int .i64 n] w fun r w' => r = .returned (.agg #[.int .i64 (2 * n + 1), .pointer none]) ∧ Below w.heap.size w w' := by
  obtain ⟨o, ho⟩ : ∃ o, Obj.cells #[.int .i64 0, .pointer none] 36 = o := ⟨_, rfl⟩
  have bo : Below w.heap.size w (w.alloc o) := (Below.refl _ w).alloc (Nat.le_refl _) o
  have hb : (w.alloc o).heap[w.heap.size]? = some (.cells #[.int .i64 0, .pointer none] 36 (0, 0)) := by rw [← ho]; exact heap_alloc_at _ _ _ rfl
  have c0 : (w.alloc o).cell? ⟨w.heap.size, 0, none⟩ = some (.int .i64 0) := by rw [cells_at hb 0]; rfl
  have c1 : (w.alloc o).cell? ⟨w.heap.size, 1, none⟩ = some (.pointer none) := by rw [cells_at hb 1]; rfl
  have f0 := cells_free hb 0
  have f1 := cells_free hb 1
  go_enter Tryd.func22, Tryd.ntmps22
  go_wp2
  try rw [ho]
  have hb2 : (((w.alloc o).setCell ⟨w.heap.size, 0, none⟩ (.int .i64 (2 * n + 1))).setCell ⟨w.heap.size, 1, none⟩ (.pointer none)).heap[w.heap.size]? = some (.cells #[.int .i64 (2 * n + 1), .pointer none] 36 (0, 0)) := by
    rw [heap_set_at (heap_set_at hb _) _]
    rfl
  have hp2 : Below w.heap.size w (((w.alloc o).setCell ⟨w.heap.size, 0, none⟩ (.int .i64 (2 * n + 1))).setCell ⟨w.heap.size, 1, none⟩ (.pointer none)) :=
    bo.trans ((((Part.refl (fun k => k = w.heap.size) (w.alloc o)).setCell (p := ⟨w.heap.size, 0, none⟩) (fun _ => rfl) _).setCell (p := ⟨w.heap.size, 1, none⟩) (fun _ => rfl) _).below (fun k hk => by omega) bo.size)
  generalize ((w.alloc o).setCell ⟨w.heap.size, 0, none⟩ (.int .i64 (2 * n + 1))).setCell ⟨w.heap.size, 1, none⟩ (.pointer none) = W at *
  have x0 : W.cell? ⟨w.heap.size, 0, none⟩ = some (.int .i64 (2 * n + 1)) := by rw [cells_at hb2 0]; rfl
  have x1 : W.cell? ⟨w.heap.size, 1, none⟩ = some (.pointer none) := by rw [cells_at hb2 1]; rfl
  exact bodyPost_ret (v := .agg #[.int .i64 (2 * n + 1), .pointer none]) (by simp [results, Tryd.results22, go_sem, x0, x1]) rfl ⟨rfl, hp2⟩
end Go.Proofs.YtnekefchbienoaaDoor
