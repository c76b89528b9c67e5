/-
  A heap's contract: Make of a pair and of a vector of one field, by what add does.
-/
import Derived.Test.YtmpilcamnhlalaaDoorHpE
namespace Go.Proofs.YtmpilcamnhlalaaDoor
open Go.RowKit
set_option linter.unusedVariables false
theorem infoWord : (Tryd.prog.info? 28).map (fun i => (i.zero, i.size, i.bytes)) = some (some (.int .i64 0), 1, 8) := by kernel_rfl
theorem made_words (n : Nat) : madeCells #[.int .i64 0] n = wrow (fun _ => 0) n := by
  apply Array.ext_getElem?
  intro j
  by_cases h : j < n
  · rw [wrow_get _ _ _ h]
    simp [madeCells, h, Nat.mod_one]
  · rw [Array.getElem?_eq_none (by simp [madeCells]; omega), Array.getElem?_eq_none (by simp [wrow]; omega)]

set_option maxRecDepth 100000 in
set_option maxHeartbeats 2000000 in
theorem h_make2 {w : World} {h : Nat} {P : Nat → Prop} {x : HV} (k : Hp w h P x) (lb : Nat) (t kf : Nat → Int) (hl : ∀ i, i < 2 → w.cell? ⟨lb, i, none⟩ = some (.int .i64 (t i))) (hw : w.cell? ⟨0, 1, none⟩ = some (.int .i64 2)) (HK : ∀ i, i < 2 → ∀ wq, Below w.heap.size w wq → Calls Tryd.prog 23 #[.pointer (some ⟨h, 0, none⟩), .int .i64 (t i)] wq fun r w' => r = .returned (.tuple #[.int .i64 (kf i), .bool true]) ∧ Dr wq w') (R : Int → Int → World → Prop)
    (HA : ∀ W, Below w.heap.size w W → W.heap[w.heap.size]? = some (.cells (wrow kf 2) 28 (0, 0)) → Calls Tryd.prog 25 #[.pointer (some ⟨h, 0, none⟩), .agg #[.int .i64 1, .slice (some ⟨w.heap.size, 0, none⟩) 2 2, .string ⟨#[]⟩, .bool false]] W fun r w' => ∃ z e, r = .returned (.tuple #[.int .i64 z, .int .i64 e]) ∧ R z e w') :
    Calls Tryd.prog 7 #[.pointer (some ⟨h, 0, none⟩), .int .i64 1, .slice (some ⟨lb, 0, none⟩) 2 2] w fun r w' => ∃ z e, r = .returned (.tuple #[.int .i64 z, .int .i64 e]) ∧ R z e w' := by
  obtain ⟨so, sy, sr, k1, _⟩ := k.lay
  have HM : Hid (Calls Tryd.prog 22 #[.pointer (some ⟨h, 0, none⟩)] w fun r w' => r = .returned (.bool false) ∧ w' = w) := h_missing k1 rfl
  have HH : Hid (Calls Tryd.prog 24 #[.int .i64 1, .int .i64 2] w fun r w' => r = .returned (.bool true) ∧ w' = w) := h_have1 hw
  obtain ⟨o, ho⟩ : ∃ o, Obj.cells (wrow (fun _ => 0) 2) 28 = o := ⟨_, rfl⟩
  have hmk : ∀ w : World, (Instr.makeSlice 33 (.int .i64 2) (.int .i64 2)).run Tryd.prog w = .ok (.slice (some ⟨w.heap.size, 0, none⟩) 2 2) (w.alloc o) := fun w => by
    rw [← ho, ← made_words]
    exact run_make_row' (P := Tryd.prog) 33 28 (.int .i64 0) 8 Tryd.underlying33 infoWord rfl .i64 .i64 2 (by decide) (by decide) w
  have HI : Hid (∀ (i : Nat) (wr : World), i ≤ 2 → Below w.heap.size w wr → wr.heap[w.heap.size]? = some (.cells (wrow (fun q => if q < i then kf q else 0) 2) 28 (0, 0)) → (i < 2 → wr.cell? ⟨lb, i, none⟩ = some (.int .i64 (t i)) ∧ Hid (Calls Tryd.prog 23 #[.pointer (some ⟨h, 0, none⟩), .int .i64 (t i)] wr fun r w' => r = .returned (.tuple #[.int .i64 (kf i), .bool true]) ∧ w'.frozen? ⟨w.heap.size, i, none⟩ = false ∧ (∃ u, w'.cell? ⟨w.heap.size, i, none⟩ = some u) ∧ Hid (Below w.heap.size w (w'.setCell ⟨w.heap.size, i, none⟩ (.int .i64 (kf i))) ∧ (w'.setCell ⟨w.heap.size, i, none⟩ (.int .i64 (kf i))).heap[w.heap.size]? = some (.cells (wrow (fun q => if q < i + 1 then kf q else 0) 2) 28 (0, 0)))))) := fun i wr hi hb hr hlt => by
    have hc := hl i hlt
    refine ⟨by rw [hb.cell (p := ⟨lb, i, none⟩) (World.block_lt_of_cell? w _ hc)]; exact hc, ?_⟩
    refine (HK i hlt wr hb).mono ?_
    rintro r w' ⟨rfl, q, rfl⟩
    have hr' : (wr.drewN q).heap[w.heap.size]? = some (.cells (wrow (fun q => if q < i then kf q else 0) 2) 28 (0, 0)) := hr
    refine ⟨rfl, cells_free hr' i, ⟨_, by rw [cells_at hr' i, wrow_get _ _ _ hlt]⟩, ?_, ?_⟩
    · exact (blw_drewN q hb).trans (((Part.refl (fun k => k = w.heap.size) (wr.drewN q)).setCell (p := ⟨w.heap.size, i, none⟩) (fun _ => rfl) _).below (fun k hk => by omega) hb.size)
    · rw [heap_set_at hr']
      congr 2
      apply Array.ext_getElem?
      intro j
      by_cases hj : j = i
      · subst hj
        rw [Array.getElem?_setIfInBounds_self_of_lt (by simp [wrow]; omega), wrow_get _ _ _ hlt, if_pos (by omega)]
      · rw [Array.getElem?_setIfInBounds_ne (by omega)]
        by_cases hj2 : j < 2
        · rw [wrow_get _ _ _ hj2, wrow_get _ _ _ hj2]
          by_cases h1 : j < i
          · rw [if_pos h1, if_pos (by omega)]
          · rw [if_neg h1, if_neg (by omega)]
        · rw [Array.getElem?_eq_none (by simp [wrow]; omega), Array.getElem?_eq_none (by simp [wrow]; omega)]
  have HE : Hid (∀ wr, Below w.heap.size w wr → wr.heap[w.heap.size]? = some (.cells (wrow (fun q => if q < 2 then kf q else 0) 2) 28 (0, 0)) → Calls Tryd.prog 25 #[.pointer (some ⟨h, 0, none⟩), .agg #[.int .i64 1, .slice (some ⟨w.heap.size, 0, none⟩) 2 2, .string ⟨#[]⟩, .bool false]] wr fun r w' => ∃ z e, r = .returned (.tuple #[.int .i64 z, .int .i64 e]) ∧ R z e w') := fun wr hb hr => by
    refine HA wr hb ?_
    rw [hr]
    rfl
  have HB0 : Hid (Below w.heap.size w (w.alloc o) ∧ (w.alloc o).heap[w.heap.size]? = some (.cells (wrow (fun q => if q < 0 then kf q else 0) 2) 28 (0, 0))) := ⟨(Below.refl _ w).alloc (Nat.le_refl _) o, by rw [← ho]; exact heap_alloc_at _ _ _ rfl⟩
  clear k k1 hl HK HA hw
  go_enter Tryd.func7, Tryd.ntmps7
  go_wp2_with fail
  refine HM.out.mono ?_
  rintro r w1 ⟨rfl, hw1⟩
  obtain rfl : w = w1 := hw1.symm
  clear hw1 HM
  go_wp2_with fail
  refine HH.out.mono ?_
  rintro r w1 ⟨rfl, hw1⟩
  obtain rfl : w = w1 := hw1.symm
  clear hw1 HH
  go_wp2
  clear hmk
  go_loopw [25] (fun s25 wr => ∃ i : Nat, i ≤ 2 ∧ s25 = .int .i64 (i : Int) ∧ Hid (Below w.heap.size w wr ∧ wr.heap[w.heap.size]? = some (.cells (wrow (fun q => if q < i then kf q else 0) 2) 28 (0, 0)))) (fun i _ => 2 - (intOf i).toNat)
  case atStart => exact ⟨0, by decide, rfl, HB0⟩
  case round =>
    obtain ⟨i, hi, rfl, HB⟩ := hrel
    by_cases hlt : i < 2
    · obtain ⟨c0, HKi⟩ := HI.out i wr hi HB.out.1 HB.out.2 hlt
      have hlt' : (i : Int) < 2 := by omega
      have hi0 : (0 : Int) ≤ (i : Int) := by omega
      clear HI HE HB0 HB
      go_wp2_with fail
      refine HKi.out.mono ?_
      rintro r w2 ⟨rfl, y1, ⟨u, y2⟩, HN⟩
      clear HKi
      go_wp2
      go_roundw
      case rel => exact ⟨i + 1, by omega, by go_num, HN⟩
      case measure => simp [intOf]; omega
    · obtain rfl : i = 2 := by omega
      have HE2 := HE.out wr HB.out.1 HB.out.2
      have HE3 : Hid (Calls Tryd.prog 25 #[.pointer (some ⟨h, 0, none⟩), .agg #[.int .i64 1, .slice (some ⟨w.heap.size, 0, none⟩) 2 2, .string ⟨#[]⟩, .bool false]] wr fun r w' => ∃ z e, r = .returned (.tuple #[.int .i64 z, .int .i64 e]) ∧ R z e w') := HE2
      clear HI HE HB0 HB HE2
      go_wp2_with fail
      refine HE3.out.mono ?_
      rintro r w2 ⟨z, e, rfl, hR⟩
      have HR : Hid (R z e w2) := hR
      clear hR HE3
      go_wp2
      go_ret2
      exact ⟨z, e, rfl, HR.out⟩

set_option maxRecDepth 100000 in
set_option maxHeartbeats 2000000 in
theorem h_make1 {w : World} {h : Nat} {P : Nat → Prop} {x : HV} (k : Hp w h P x) (lb : Nat) (t kf : Nat → Int) (hl : ∀ i, i < 1 → w.cell? ⟨lb, i, none⟩ = some (.int .i64 (t i))) (hw : w.cell? ⟨0, 1, none⟩ = some (.int .i64 2)) (HK : ∀ i, i < 1 → ∀ wq, Below w.heap.size w wq → Calls Tryd.prog 23 #[.pointer (some ⟨h, 0, none⟩), .int .i64 (t i)] wq fun r w' => r = .returned (.tuple #[.int .i64 (kf i), .bool true]) ∧ Dr wq w') (R : Int → Int → World → Prop)
    (HA : ∀ W, Below w.heap.size w W → W.heap[w.heap.size]? = some (.cells (wrow kf 1) 28 (0, 0)) → Calls Tryd.prog 25 #[.pointer (some ⟨h, 0, none⟩), .agg #[.int .i64 2, .slice (some ⟨w.heap.size, 0, none⟩) 1 1, .string ⟨#[]⟩, .bool false]] W fun r w' => ∃ z e, r = .returned (.tuple #[.int .i64 z, .int .i64 e]) ∧ R z e w') :
    Calls Tryd.prog 7 #[.pointer (some ⟨h, 0, none⟩), .int .i64 2, .slice (some ⟨lb, 0, none⟩) 1 1] w fun r w' => ∃ z e, r = .returned (.tuple #[.int .i64 z, .int .i64 e]) ∧ R z e w' := by
  obtain ⟨so, sy, sr, k1, _⟩ := k.lay
  have HM : Hid (Calls Tryd.prog 22 #[.pointer (some ⟨h, 0, none⟩)] w fun r w' => r = .returned (.bool false) ∧ w' = w) := h_missing k1 rfl
  have HH : Hid (Calls Tryd.prog 24 #[.int .i64 2, .int .i64 1] w fun r w' => r = .returned (.bool true) ∧ w' = w) := h_have2
  obtain ⟨o, ho⟩ : ∃ o, Obj.cells (wrow (fun _ => 0) 1) 28 = o := ⟨_, rfl⟩
  have hmk : ∀ w : World, (Instr.makeSlice 33 (.int .i64 1) (.int .i64 1)).run Tryd.prog w = .ok (.slice (some ⟨w.heap.size, 0, none⟩) 1 1) (w.alloc o) := fun w => by
    rw [← ho, ← made_words]
    exact run_make_row' (P := Tryd.prog) 33 28 (.int .i64 0) 8 Tryd.underlying33 infoWord rfl .i64 .i64 1 (by decide) (by decide) w
  have HI : Hid (∀ (i : Nat) (wr : World), i ≤ 1 → Below w.heap.size w wr → wr.heap[w.heap.size]? = some (.cells (wrow (fun q => if q < i then kf q else 0) 1) 28 (0, 0)) → (i < 1 → wr.cell? ⟨lb, i, none⟩ = some (.int .i64 (t i)) ∧ Hid (Calls Tryd.prog 23 #[.pointer (some ⟨h, 0, none⟩), .int .i64 (t i)] wr fun r w' => r = .returned (.tuple #[.int .i64 (kf i), .bool true]) ∧ w'.frozen? ⟨w.heap.size, i, none⟩ = false ∧ (∃ u, w'.cell? ⟨w.heap.size, i, none⟩ = some u) ∧ Hid (Below w.heap.size w (w'.setCell ⟨w.heap.size, i, none⟩ (.int .i64 (kf i))) ∧ (w'.setCell ⟨w.heap.size, i, none⟩ (.int .i64 (kf i))).heap[w.heap.size]? = some (.cells (wrow (fun q => if q < i + 1 then kf q else 0) 1) 28 (0, 0)))))) := fun i wr hi hb hr hlt => by
    have hc := hl i hlt
    refine ⟨by rw [hb.cell (p := ⟨lb, i, none⟩) (World.block_lt_of_cell? w _ hc)]; exact hc, ?_⟩
    refine (HK i hlt wr hb).mono ?_
    rintro r w' ⟨rfl, q, rfl⟩
    have hr' : (wr.drewN q).heap[w.heap.size]? = some (.cells (wrow (fun q => if q < i then kf q else 0) 1) 28 (0, 0)) := hr
    refine ⟨rfl, cells_free hr' i, ⟨_, by rw [cells_at hr' i, wrow_get _ _ _ hlt]⟩, ?_, ?_⟩
    · exact (blw_drewN q hb).trans (((Part.refl (fun k => k = w.heap.size) (wr.drewN q)).setCell (p := ⟨w.heap.size, i, none⟩) (fun _ => rfl) _).below (fun k hk => by omega) hb.size)
    · rw [heap_set_at hr']
      congr 2
      apply Array.ext_getElem?
      intro j
      by_cases hj : j = i
      · subst hj
        rw [Array.getElem?_setIfInBounds_self_of_lt (by simp [wrow]; omega), wrow_get _ _ _ hlt, if_pos (by omega)]
      · rw [Array.getElem?_setIfInBounds_ne (by omega)]
        by_cases hj2 : j < 1
        · rw [wrow_get _ _ _ hj2, wrow_get _ _ _ hj2]
          by_cases h1 : j < i
          · rw [if_pos h1, if_pos (by omega)]
          · rw [if_neg h1, if_neg (by omega)]
        · rw [Array.getElem?_eq_none (by simp [wrow]; omega), Array.getElem?_eq_none (by simp [wrow]; omega)]
  have HE : Hid (∀ wr, Below w.heap.size w wr → wr.heap[w.heap.size]? = some (.cells (wrow (fun q => if q < 1 then kf q else 0) 1) 28 (0, 0)) → Calls Tryd.prog 25 #[.pointer (some ⟨h, 0, none⟩), .agg #[.int .i64 2, .slice (some ⟨w.heap.size, 0, none⟩) 1 1, .string ⟨#[]⟩, .bool false]] wr fun r w' => ∃ z e, r = .returned (.tuple #[.int .i64 z, .int .i64 e]) ∧ R z e w') := fun wr hb hr => by
    refine HA wr hb ?_
    rw [hr]
    rfl
  have HB0 : Hid (Below w.heap.size w (w.alloc o) ∧ (w.alloc o).heap[w.heap.size]? = some (.cells (wrow (fun q => if q < 0 then kf q else 0) 1) 28 (0, 0))) := ⟨(Below.refl _ w).alloc (Nat.le_refl _) o, by rw [← ho]; exact heap_alloc_at _ _ _ rfl⟩
  clear k k1 hl HK HA hw
  go_enter Tryd.func7, Tryd.ntmps7
  go_wp2_with fail
  refine HM.out.mono ?_
  rintro r w1 ⟨rfl, hw1⟩
  obtain rfl : w = w1 := hw1.symm
  clear hw1 HM
  go_wp2_with fail
  refine HH.out.mono ?_
  rintro r w1 ⟨rfl, hw1⟩
  obtain rfl : w = w1 := hw1.symm
  clear hw1 HH
  go_wp2
  clear hmk
  go_loopw [25] (fun s25 wr => ∃ i : Nat, i ≤ 1 ∧ s25 = .int .i64 (i : Int) ∧ Hid (Below w.heap.size w wr ∧ wr.heap[w.heap.size]? = some (.cells (wrow (fun q => if q < i then kf q else 0) 1) 28 (0, 0)))) (fun i _ => 1 - (intOf i).toNat)
  case atStart => exact ⟨0, by decide, rfl, HB0⟩
  case round =>
    obtain ⟨i, hi, rfl, HB⟩ := hrel
    by_cases hlt : i < 1
    · obtain ⟨c0, HKi⟩ := HI.out i wr hi HB.out.1 HB.out.2 hlt
      have hlt' : (i : Int) < 1 := by omega
      have hi0 : (0 : Int) ≤ (i : Int) := by omega
      clear HI HE HB0 HB
      go_wp2_with fail
      refine HKi.out.mono ?_
      rintro r w2 ⟨rfl, y1, ⟨u, y2⟩, HN⟩
      clear HKi
      go_wp2
      go_roundw
      case rel => exact ⟨i + 1, by omega, by go_num, HN⟩
      case measure => simp [intOf]; omega
    · obtain rfl : i = 1 := by omega
      have HE2 := HE.out wr HB.out.1 HB.out.2
      have HE3 : Hid (Calls Tryd.prog 25 #[.pointer (some ⟨h, 0, none⟩), .agg #[.int .i64 2, .slice (some ⟨w.heap.size, 0, none⟩) 1 1, .string ⟨#[]⟩, .bool false]] wr fun r w' => ∃ z e, r = .returned (.tuple #[.int .i64 z, .int .i64 e]) ∧ R z e w') := HE2
      clear HI HE HB0 HB HE2
      go_wp2_with fail
      refine HE3.out.mono ?_
      rintro r w2 ⟨z, e, rfl, hR⟩
      have HR : Hid (R z e w2) := hR
      clear hR HE3
      go_wp2
      go_ret2
      exact ⟨z, e, rfl, HR.out⟩
end Go.Proofs.YtmpilcamnhlalaaDoor
