/-
  HeapNobody: what a heap that no call made answers; the law's walk.
-/
import Derived.Test.YtmpilcamnhlalaaDoorHpS
namespace Go.Proofs.YtmpilcamnhlalaaDoor
open Go.RowKit
set_option linter.unusedVariables false

/-- A heap that no call made. -/
def Ms (p : Value) (w : World) : Prop := Calls Tryd.prog 22 #[p] w fun r w' => r = .returned (.bool true) ∧ w' = w
theorem m_make {p : Value} {w : World} (HM : Hid (Ms p w)) (kind : Int) : Calls Tryd.prog 7 #[p, .int .i64 kind, .slice none 0 0] w fun r w' => r = .returned (.tuple #[.int .i64 0, .int .i64 2]) ∧ w' = w := by
  go_enter Tryd.func7, Tryd.ntmps7
  go_wp2_with fail
  refine HM.out.mono ?_
  rintro r w1 ⟨rfl, hw⟩
  obtain rfl : w = w1 := hw.symm
  clear hw
  go_wp2
  go_ret2
  exact ⟨rfl, rfl⟩
theorem m_text {p : Value} {w : World} (HM : Hid (Ms p w)) (kind : Int) (s : ByteArray) : Calls Tryd.prog 13 #[p, .int .i64 kind, .string s] w fun r w' => r = .returned (.tuple #[.int .i64 0, .int .i64 2]) ∧ w' = w := by
  go_enter Tryd.func13, Tryd.ntmps13
  go_wp2_with fail
  refine HM.out.mono ?_
  rintro r w1 ⟨rfl, hw⟩
  obtain rfl : w = w1 := hw.symm
  clear hw
  go_wp2
  go_ret2
  exact ⟨rfl, rfl⟩
theorem m_holder {p : Value} {w : World} (HM : Hid (Ms p w)) (v i : Int) : Calls Tryd.prog 29 #[p, .int .i64 v, .int .i64 i] w fun r w' => r = .returned (.tuple #[.pointer none, .int .i64 2]) ∧ w' = w := by
  go_enter Tryd.func29, Tryd.ntmps29
  go_wp2_with fail
  refine HM.out.mono ?_
  rintro r w1 ⟨rfl, hw⟩
  obtain rfl : w = w1 := hw.symm
  clear hw
  go_wp2
  go_ret2
  exact ⟨rfl, rfl⟩
theorem m_push {p : Value} {w : World} (HM : Hid (Ms p w)) (v : Int) : Calls Tryd.prog 6 #[p, .int .i64 v] w fun r w' => r = .returned (.int .i64 2) ∧ w' = w := by
  go_enter Tryd.func6, Tryd.ntmps6
  go_wp2_with fail
  refine HM.out.mono ?_
  rintro r w1 ⟨rfl, hw⟩
  obtain rfl : w = w1 := hw.symm
  clear hw
  go_wp2
  go_ret
  exact ⟨rfl, rfl⟩
theorem m_pop {p : Value} {w : World} (HM : Hid (Ms p w)) (v : Int) : Calls Tryd.prog 15 #[p, .int .i64 v] w fun r w' => r = .returned (.int .i64 2) ∧ w' = w := by
  go_enter Tryd.func15, Tryd.ntmps15
  go_wp2_with fail
  refine HM.out.mono ?_
  rintro r w1 ⟨rfl, hw⟩
  obtain rfl : w = w1 := hw.symm
  clear hw
  go_wp2
  go_ret
  exact ⟨rfl, rfl⟩
theorem m_setRoot {p : Value} {w : World} (HM : Hid (Ms p w)) (i v : Int) : Calls Tryd.prog 9 #[p, .int .i64 i, .int .i64 v] w fun r w' => r = .returned (.int .i64 2) ∧ w' = w := by
  go_enter Tryd.func9, Tryd.ntmps9
  go_wp2_with fail
  refine HM.out.mono ?_
  rintro r w1 ⟨rfl, hw⟩
  obtain rfl : w = w1 := hw.symm
  clear hw
  go_wp2
  go_ret
  exact ⟨rfl, rfl⟩
theorem m_collect {p : Value} {w : World} (HM : Hid (Ms p w)) (b : Bool) : Calls Tryd.prog 16 #[p, .bool b] w fun r w' => r = .returned (.int .i64 2) ∧ w' = w := by
  go_enter Tryd.func16, Tryd.ntmps16
  go_wp2_with fail
  refine HM.out.mono ?_
  rintro r w1 ⟨rfl, hw⟩
  obtain rfl : w = w1 := hw.symm
  clear hw
  go_wp2
  go_ret
  exact ⟨rfl, rfl⟩
theorem m_find {p : Value} {w : World} (HM : Hid (Ms p w)) (v : Int) : Calls Tryd.prog 28 #[p, .int .i64 v] w fun r w' => r = .returned (.pointer none) ∧ w' = w := by
  go_enter Tryd.func28, Tryd.ntmps28
  go_wp2_with fail
  refine HM.out.mono ?_
  rintro r w1 ⟨rfl, hw⟩
  obtain rfl : w = w1 := hw.symm
  clear hw
  go_wp2
  go_ret
  exact ⟨rfl, rfl⟩
theorem m_roots {p : Value} {w : World} (HM : Hid (Ms p w)) : Calls Tryd.prog 18 #[p] w fun r w' => r = .returned (.int .i64 0) ∧ w' = w := by
  go_enter Tryd.func18, Tryd.ntmps18
  go_wp2_with fail
  refine HM.out.mono ?_
  rintro r w1 ⟨rfl, hw⟩
  obtain rfl : w = w1 := hw.symm
  clear hw
  go_wp2
  go_ret
  exact ⟨rfl, rfl⟩
theorem m_root {p : Value} {w : World} (HM : Hid (Ms p w)) (i : Int) : Calls Tryd.prog 8 #[p, .int .i64 i] w fun r w' => r = .returned (.int .i64 0) ∧ w' = w := by
  go_enter Tryd.func8, Tryd.ntmps8
  go_wp2_with fail
  refine HM.out.mono ?_
  rintro r w1 ⟨rfl, hw⟩
  obtain rfl : w = w1 := hw.symm
  clear hw
  go_wp2
  go_ret
  exact ⟨rfl, rfl⟩
theorem m_counts {p : Value} {w : World} (HM : Hid (∀ wq, Below w.heap.size w wq → Ms p wq)) : Calls Tryd.prog 20 #[p] w fun r w' => r = .returned (.agg #[.int .i64 0, .int .i64 0, .int .i64 0, .int .i64 0]) ∧ Below w.heap.size w w' := by
  obtain ⟨o, ho⟩ : ∃ o, Obj.cells #[.int .i64 0, .int .i64 0, .int .i64 0, .int .i64 0] 52 = o := ⟨_, rfl⟩
  have bo : Below w.heap.size w (w.alloc o) := (Below.refl _ w).alloc (Nat.le_refl _) o
  have hb : (w.alloc o).heap[w.heap.size]? = some (.cells #[.int .i64 0, .int .i64 0, .int .i64 0, .int .i64 0] 52 (0, 0)) := by rw [← ho]; exact heap_alloc_at _ _ _ rfl
  have HM2 : Hid (Ms p (w.alloc o)) := HM.out _ bo
  have c0 : (w.alloc o).cell? ⟨w.heap.size, 0, none⟩ = some (.int .i64 0) := by rw [cells_at hb 0]; rfl
  have c1 : (w.alloc o).cell? ⟨w.heap.size, 1, none⟩ = some (.int .i64 0) := by rw [cells_at hb 1]; rfl
  have c2 : (w.alloc o).cell? ⟨w.heap.size, 2, none⟩ = some (.int .i64 0) := by rw [cells_at hb 2]; rfl
  have c3 : (w.alloc o).cell? ⟨w.heap.size, 3, none⟩ = some (.int .i64 0) := by rw [cells_at hb 3]; rfl
  have f0 := cells_free hb 0
  have f1 := cells_free hb 1
  have f2 := cells_free hb 2
  have f3 := cells_free hb 3
  clear HM
  go_enter Tryd.func20, Tryd.ntmps20
  go_wp2_with fail
  try rw [ho]
  refine HM2.out.mono ?_
  rintro r w1 ⟨rfl, hw⟩
  obtain rfl : w.alloc o = w1 := hw.symm
  clear hw
  go_wp2
  have hb4 : (((((w.alloc o).setCell ⟨w.heap.size, 0, none⟩ (.int .i64 0)).setCell ⟨w.heap.size, 1, none⟩ (.int .i64 0)).setCell ⟨w.heap.size, 2, none⟩ (.int .i64 0)).setCell ⟨w.heap.size, 3, none⟩ (.int .i64 0)).heap[w.heap.size]? = some (.cells #[.int .i64 0, .int .i64 0, .int .i64 0, .int .i64 0] 52 (0, 0)) := by
    rw [heap_set_at (heap_set_at (heap_set_at (heap_set_at hb _) _) _) _]
    rfl
  have hp4 : Below w.heap.size w (((((w.alloc o).setCell ⟨w.heap.size, 0, none⟩ (.int .i64 0)).setCell ⟨w.heap.size, 1, none⟩ (.int .i64 0)).setCell ⟨w.heap.size, 2, none⟩ (.int .i64 0)).setCell ⟨w.heap.size, 3, none⟩ (.int .i64 0)) :=
    bo.trans ((((((Part.refl (fun k => k = w.heap.size) (w.alloc o)).setCell (p := ⟨w.heap.size, 0, none⟩) (fun _ => rfl) _).setCell (p := ⟨w.heap.size, 1, none⟩) (fun _ => rfl) _).setCell (p := ⟨w.heap.size, 2, none⟩) (fun _ => rfl) _).setCell (p := ⟨w.heap.size, 3, none⟩) (fun _ => rfl) _).below (fun k hk => by omega) bo.size)
  generalize ((((w.alloc o).setCell ⟨w.heap.size, 0, none⟩ (.int .i64 0)).setCell ⟨w.heap.size, 1, none⟩ (.int .i64 0)).setCell ⟨w.heap.size, 2, none⟩ (.int .i64 0)).setCell ⟨w.heap.size, 3, none⟩ (.int .i64 0) = W4 at *
  have x0 : W4.cell? ⟨w.heap.size, 0, none⟩ = some (.int .i64 0) := by rw [cells_at hb4 0]; rfl
  have x1 : W4.cell? ⟨w.heap.size, 1, none⟩ = some (.int .i64 0) := by rw [cells_at hb4 1]; rfl
  have x2 : W4.cell? ⟨w.heap.size, 2, none⟩ = some (.int .i64 0) := by rw [cells_at hb4 2]; rfl
  have x3 : W4.cell? ⟨w.heap.size, 3, none⟩ = some (.int .i64 0) := by rw [cells_at hb4 3]; rfl
  refine bodyPost_ret (v := .agg #[.int .i64 0, .int .i64 0, .int .i64 0, .int .i64 0]) (by simp [results, Tryd.results20, go_sem, x0, x1, x2, x3]) rfl ⟨rfl, hp4⟩
theorem m_field {p : Value} {w : World} (HM : Hid (Ms p w)) (v i : Int) : Calls Tryd.prog 11 #[p, .int .i64 v, .int .i64 i] w fun r w' => r = .returned (.tuple #[.int .i64 0, .int .i64 2]) ∧ w' = w := by
  have HC : Hid (Calls Tryd.prog 29 #[p, .int .i64 v, .int .i64 i] w fun r w' => r = .returned (.tuple #[.pointer none, .int .i64 2]) ∧ w' = w) := m_holder HM v i
  clear HM
  go_enter Tryd.func11, Tryd.ntmps11
  go_wp2_with fail
  refine HC.out.mono ?_
  rintro r w1 ⟨rfl, hw⟩
  obtain rfl : w = w1 := hw.symm
  clear hw
  go_wp2
  go_ret2
  exact ⟨rfl, rfl⟩
theorem m_set {p : Value} {w : World} (HM : Hid (Ms p w)) (v i u : Int) : Calls Tryd.prog 14 #[p, .int .i64 v, .int .i64 i, .int .i64 u] w fun r w' => r = .returned (.int .i64 2) ∧ w' = w := by
  have HC : Hid (Calls Tryd.prog 29 #[p, .int .i64 v, .int .i64 i] w fun r w' => r = .returned (.tuple #[.pointer none, .int .i64 2]) ∧ w' = w) := m_holder HM v i
  clear HM
  go_enter Tryd.func14, Tryd.ntmps14
  go_wp2_with fail
  refine HC.out.mono ?_
  rintro r w1 ⟨rfl, hw⟩
  obtain rfl : w = w1 := hw.symm
  clear hw
  go_wp2
  go_ret
  exact ⟨rfl, rfl⟩
theorem m_kind {p : Value} {w : World} (HM : Hid (Ms p w)) (v : Int) : Calls Tryd.prog 10 #[p, .int .i64 v] w fun r w' => r = .returned (.int .i64 0) ∧ w' = w := by
  have HC : Hid (Calls Tryd.prog 28 #[p, .int .i64 v] w fun r w' => r = .returned (.pointer none) ∧ w' = w) := m_find HM v
  clear HM
  go_enter Tryd.func10, Tryd.ntmps10
  go_wp2_with fail
  refine HC.out.mono ?_
  rintro r w1 ⟨rfl, hw⟩
  obtain rfl : w = w1 := hw.symm
  clear hw
  go_wp2
  go_ret
  exact ⟨rfl, rfl⟩
theorem m_len {p : Value} {w : World} (HM : Hid (Ms p w)) (v : Int) : Calls Tryd.prog 17 #[p, .int .i64 v] w fun r w' => r = .returned (.int .i64 0) ∧ w' = w := by
  have HC : Hid (Calls Tryd.prog 28 #[p, .int .i64 v] w fun r w' => r = .returned (.pointer none) ∧ w' = w) := m_find HM v
  clear HM
  go_enter Tryd.func17, Tryd.ntmps17
  go_wp2_with fail
  refine HC.out.mono ?_
  rintro r w1 ⟨rfl, hw⟩
  obtain rfl : w = w1 := hw.symm
  clear hw
  go_wp2
  go_ret
  exact ⟨rfl, rfl⟩
theorem m_string {p : Value} {w : World} (HM : Hid (Ms p w)) (v : Int) : Calls Tryd.prog 19 #[p, .int .i64 v] w fun r w' => r = .returned (.string ⟨#[]⟩) ∧ w' = w := by
  have HC : Hid (Calls Tryd.prog 28 #[p, .int .i64 v] w fun r w' => r = .returned (.pointer none) ∧ w' = w) := m_find HM v
  clear HM
  go_enter Tryd.func19, Tryd.ntmps19
  go_wp2_with fail
  refine HC.out.mono ?_
  rintro r w1 ⟨rfl, hw⟩
  obtain rfl : w = w1 := hw.symm
  clear hw
  go_wp2
  go_ret
  exact ⟨rfl, rfl⟩

set_option maxRecDepth 100000 in
set_option maxHeartbeats 4000000 in
theorem nobody_walk (kind i : Int) (w : World) (hw : w.cell? ⟨0, 1, none⟩ = some (.int .i64 2)) : Calls Tryd.prog 4 #[.int .i64 kind, .int .i64 i] w fun r w' => r = .returned (.bool true) ∧ Below w.heap.size w w' := by
  have HCn : Hid (∀ wq, Below w.heap.size w wq → Calls Tryd.prog 3 #[.int .i64 3, .int .i64 1] wq fun r w' => r = .returned (.bool true) ∧ Below w.heap.size w w') := fun wq hq => (chain31 wq (wd_below hw hq)).mono fun r w' ⟨hr, hb⟩ => ⟨hr, hq.trans (hb.mono hq.size)⟩
  clear hw
  obtain ⟨o1, ho1⟩ : ∃ o, Obj.cells #[.slice none 0 0, .int .i64 0, .int .i64 0, .slice none 0 0, .int .i64 0, .int .i64 0, .slice none 0 0, .slice none 0 0, .int .i64 0, .int .i64 0, .int .i64 0, .bool false] 43 = o := ⟨_, rfl⟩
  obtain ⟨o2, ho2⟩ : ∃ o, Obj.cells #[.pointer none, .pointer (some ⟨w.heap.size, 0, none⟩)] 23 = o := ⟨_, rfl⟩
  have b1 : Below w.heap.size w (w.alloc o1) := (Below.refl _ w).alloc (Nat.le_refl _) o1
  have b2 : Below w.heap.size w ((w.alloc o1).alloc o2) := b1.alloc b1.size o2
  have s1 : (w.alloc o1).heap.size = w.heap.size + 1 := by simp
  have hz : Hd ((w.alloc o1).alloc o2) w.heap.size (.slice none 0 0) 0 0 (.slice none 0 0) 0 0 (.slice none 0 0) (.slice none 0 0) 0 0 0 false := by
    show ((w.alloc o1).alloc o2).heap[w.heap.size]? = _
    rw [Below.heap_alloc (w.alloc o1) o2 w.heap.size (by omega), ← ho1]
    exact heap_alloc_at _ _ _ rfl
  have hl : ((w.alloc o1).alloc o2).heap[w.heap.size + 1]? = some (.cells #[.pointer none, .pointer (some ⟨w.heap.size, 0, none⟩)] 23 (0, 0)) := by rw [← ho2]; exact heap_alloc_at _ _ _ (by omega)
  have H1 : Hid (∀ wq, Below ((w.alloc o1).alloc o2).heap.size ((w.alloc o1).alloc o2) wq → Ms (.pointer none) wq) := fun wq _ => h_missing_nil _
  have H2 : Hid (∀ wq, Below ((w.alloc o1).alloc o2).heap.size ((w.alloc o1).alloc o2) wq → Ms (.pointer (some ⟨w.heap.size, 0, none⟩)) wq) := fun wq hq => h_missing_zero (w := wq) ((hq.block _ (Array.getElem?_eq_some_iff.1 hz).1).trans hz)
  have x0 : ((w.alloc o1).alloc o2).cell? ⟨w.heap.size + 1, 0, none⟩ = some (.pointer none) := by rw [cells_at hl 0]; rfl
  have x1 : ((w.alloc o1).alloc o2).cell? ⟨w.heap.size + 1, 1, none⟩ = some (.pointer (some ⟨w.heap.size, 0, none⟩)) := by rw [cells_at hl 1]; rfl
  clear hz hl
  go_enter Tryd.func4, Tryd.ntmps4
  go_wp2
  try rw [ho1]
  try rw [ho2]
  generalize hW : (w.alloc o1).alloc o2 = W at *
  go_loopw [17] (fun s17 wr => ∃ k : Nat, k ≤ 2 ∧ s17 = .int .i64 (k : Int) ∧ Hid (Below W.heap.size W wr)) (fun k _ => 2 - (intOf k).toNat)
  case atStart => exact ⟨0, by decide, rfl, Below.refl _ _⟩
  case round =>
    obtain ⟨k, hk, rfl, HBr⟩ := hrel
    by_cases hlt : k < 2
    · obtain ⟨ao, hp, HMq⟩ : ∃ ao, wr.cell? ⟨w.heap.size + 1, k, none⟩ = some (.pointer ao) ∧ Hid (∀ wq, Below wr.heap.size wr wq → Ms (.pointer ao) wq) := by
        have key : ∀ q v, W.cell? ⟨w.heap.size + 1, q, none⟩ = some v → wr.cell? ⟨w.heap.size + 1, q, none⟩ = some v := fun q v hq => by
          rw [HBr.out.cell (p := ⟨w.heap.size + 1, q, none⟩) (World.block_lt_of_cell? W _ hq)]; exact hq
        match k, hlt with
        | 0, _ => exact ⟨_, key 0 _ x0, fun wq hq => H1.out wq (HBr.out.trans (hq.mono HBr.out.size))⟩
        | 1, _ => exact ⟨_, key 1 _ x1, fun wq hq => H2.out wq (HBr.out.trans (hq.mono HBr.out.size))⟩
      have HM : Hid (Ms (.pointer ao) wr) := HMq.out wr (Below.refl _ _)
      have hlt' : (k : Int) < 2 := by omega
      have hk0 : (0 : Int) ≤ (k : Int) := by omega
      clear x0 x1 H1 H2 HCn hW
      go_wp2_with fail
      refine (m_make HM kind).mono ?_
      rintro r w1 ⟨rfl, hw⟩
      obtain rfl : wr = w1 := hw.symm
      clear hw
      go_wp2_with fail
      refine (m_text HM kind _).mono ?_
      rintro r w1 ⟨rfl, hw⟩
      obtain rfl : wr = w1 := hw.symm
      clear hw
      go_wp2_with fail
      refine (m_field HM 2 i).mono ?_
      rintro r w1 ⟨rfl, hw⟩
      obtain rfl : wr = w1 := hw.symm
      clear hw
      go_wp2_with fail
      refine (m_set HM 2 i 1).mono ?_
      rintro r w1 ⟨rfl, hw⟩
      obtain rfl : wr = w1 := hw.symm
      clear hw
      go_wp2_with fail
      refine (m_push HM 1).mono ?_
      rintro r w1 ⟨rfl, hw⟩
      obtain rfl : wr = w1 := hw.symm
      clear hw
      go_wp2_with fail
      refine (m_pop HM i).mono ?_
      rintro r w1 ⟨rfl, hw⟩
      obtain rfl : wr = w1 := hw.symm
      clear hw
      go_wp2_with fail
      refine (m_setRoot HM i 1).mono ?_
      rintro r w1 ⟨rfl, hw⟩
      obtain rfl : wr = w1 := hw.symm
      clear hw
      go_wp2_with fail
      refine (m_collect HM true).mono ?_
      rintro r w1 ⟨rfl, hw⟩
      obtain rfl : wr = w1 := hw.symm
      clear hw
      go_wp2_with fail
      refine (m_kind HM 2).mono ?_
      rintro r w1 ⟨rfl, hw⟩
      obtain rfl : wr = w1 := hw.symm
      clear hw
      go_wp2_with fail
      refine (m_len HM 2).mono ?_
      rintro r w1 ⟨rfl, hw⟩
      obtain rfl : wr = w1 := hw.symm
      clear hw
      go_wp2_with fail
      refine (m_roots HM).mono ?_
      rintro r w1 ⟨rfl, hw⟩
      obtain rfl : wr = w1 := hw.symm
      clear hw
      go_wp2_with fail
      refine (m_string HM 2).mono ?_
      rintro r w1 ⟨rfl, hw⟩
      obtain rfl : wr = w1 := hw.symm
      clear hw
      go_wp2_with fail
      refine (m_root HM i).mono ?_
      rintro r w1 ⟨rfl, hw⟩
      obtain rfl : wr = w1 := hw.symm
      clear hw
      go_wp2_with fail
      refine (m_counts HMq).mono ?_
      rintro r w1 ⟨rfl, hb1⟩
      have HB1 : Hid (Below W.heap.size W w1) := HBr.out.trans (hb1.mono HBr.out.size)
      clear hb1
      go_wp2
      go_roundw
      case rel => exact ⟨k + 1, by omega, by go_num, HB1⟩
      case measure => simp [intOf]; omega
    · obtain rfl : k = 2 := by omega
      have HC2 : Hid (Calls Tryd.prog 3 #[.int .i64 3, .int .i64 1] wr fun r w' => r = .returned (.bool true) ∧ Below w.heap.size w w') := HCn.out wr (b2.trans (HBr.out.mono b2.size))
      clear HCn x0 x1 H1 H2 hW b1
      go_wp2_with fail
      refine HC2.out.mono ?_
      rintro r w1 ⟨rfl, hb⟩
      go_wp2
      go_ret
      exact ⟨rfl, hb⟩
end Go.Proofs.YtmpilcamnhlalaaDoor
