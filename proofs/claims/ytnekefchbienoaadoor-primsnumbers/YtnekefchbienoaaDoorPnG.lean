/-
  The document's Number and Digits; PrimsNumbers, walked.
-/
import Derived.Test.YtnekefchbienoaaDoorPnF
namespace Go.Proofs.YtnekefchbienoaaDoor
open Go.RowKit
set_option linter.unusedVariables false

/-- Words for a box of a value V that is written whole. -/
theorem vbox {w : World} {a b a' b' : Value} {o : Obj} (ho : o = Obj.cells #[a, b] 36) {w1 : World} (hw : Below (w.alloc o).heap.size (w.alloc o) w1) : ∃ W, (w1.setCell ⟨w.heap.size, 0, none⟩ a').setCell ⟨w.heap.size, 1, none⟩ b' = W ∧ W.cell? ⟨w.heap.size, 0, none⟩ = some a' ∧ W.cell? ⟨w.heap.size, 1, none⟩ = some b' ∧ Below w.heap.size w W ∧ w1.cell? ⟨w.heap.size, 0, none⟩ = some a ∧ w1.cell? ⟨w.heap.size, 1, none⟩ = some b ∧ w1.frozen? ⟨w.heap.size, 0, none⟩ = false ∧ w1.frozen? ⟨w.heap.size, 1, none⟩ = false := by
  have bo : Below w.heap.size w (w.alloc o) := (Below.refl _ w).alloc (Nat.le_refl _) o
  have hb0 : (w.alloc o).heap[w.heap.size]? = some (.cells #[a, b] 36 (0, 0)) := by rw [ho]; exact heap_alloc_at _ _ _ rfl
  have hb := (hw.block w.heap.size (by simp)).trans hb0
  have b1 : Below w.heap.size w w1 := bo.trans (hw.mono bo.size)
  have hb2 : ((w1.setCell ⟨w.heap.size, 0, none⟩ a').setCell ⟨w.heap.size, 1, none⟩ b').heap[w.heap.size]? = some (.cells #[a', b'] 36 (0, 0)) := by
    rw [heap_set_at (heap_set_at hb _) _]
    rfl
  refine ⟨_, rfl, by rw [cells_at hb2 0]; rfl, by rw [cells_at hb2 1]; rfl, ?_, by rw [cells_at hb 0]; rfl, by rw [cells_at hb 1]; rfl, cells_free hb 0, cells_free hb 1⟩
  exact b1.trans ((((Part.refl (fun k => k = w.heap.size) w1).setCell (p := ⟨w.heap.size, 0, none⟩) (fun _ => rfl) _).setCell (p := ⟨w.heap.size, 1, none⟩) (fun _ => rfl) _).below (fun k hk => by omega) b1.size)
theorem v_text (s : ByteArray) (w : World) : Calls Tryd.prog 23 #[.int .i64 5, .string s] w fun r w' => ∃ p, r = .returned (.agg #[.int .i64 0, .pointer (some p)]) ∧ Below w.heap.size w w' := by
  obtain ⟨o, ho⟩ : ∃ o, Obj.cells #[.int .i64 0, .pointer none] 36 = o := ⟨_, rfl⟩
  obtain ⟨q, hq⟩ : ∃ q, Obj.cells #[.int .i64 5, .slice none 0 0, .string s] 59 = q := ⟨_, rfl⟩
  obtain ⟨W, hW, x0, x1, hB, c0, c1, f0, f1⟩ := vbox (w := w) (a' := .int .i64 0) (b' := .pointer (some ⟨w.heap.size + 1, 0, none⟩)) ho.symm (Below.refl _ _)
  have bq : Below W.heap.size W (W.alloc q) := (Below.refl _ _).alloc (Nat.le_refl _) q
  have y0 : (W.alloc q).cell? ⟨w.heap.size, 0, none⟩ = some (.int .i64 0) := by rw [bq.cell (p := ⟨w.heap.size, 0, none⟩) (World.block_lt_of_cell? W _ x0)]; exact x0
  have y1 : (W.alloc q).cell? ⟨w.heap.size, 1, none⟩ = some (.pointer (some ⟨w.heap.size + 1, 0, none⟩)) := by rw [bq.cell (p := ⟨w.heap.size, 1, none⟩) (World.block_lt_of_cell? W _ x1)]; exact x1
  have hBq : Below w.heap.size w (W.alloc q) := hB.trans (bq.mono hB.size)
  clear bq hB
  go_enter Tryd.func23, Tryd.ntmps23
  go_wp2
  try rw [ho]
  try rw [hq]
  try rw [hW]
  exact bodyPost_ret (v := .agg #[.int .i64 0, .pointer (some ⟨w.heap.size + 1, 0, none⟩)]) (by simp only [results, Tryd.results23]; simp [go_sem, y0, y1]) rfl ⟨_, rfl, hBq⟩
/-- The document's value of a number: of a small one without an object, of another one with one. -/
def Vn (b : Bool) (r : Ending) : Prop := ∃ z p, r = .returned (.agg #[.int .i64 z, .pointer p]) ∧ p.isNone = b
theorem v_number_small {s : ByteArray} {v : Int} (hn : IsNum s v) (h1 : -1099511627776 ≤ v) (h2 : v ≤ 1099511627776) (w : World) : Calls Tryd.prog 8 #[.string s] w fun r w' => Vn true r ∧ Below w.heap.size w w' := by
  obtain ⟨o, ho⟩ : ∃ o, Obj.cells #[.int .i64 0, .pointer none] 36 = o := ⟨_, rfl⟩
  have HS : Hid (∀ wq, Below (w.alloc o).heap.size (w.alloc o) wq → Calls Tryd.prog 21 #[.string s] wq fun e w' => e = .returned (.tuple #[.int .i64 v, .bool true]) ∧ Hid (Below (w.alloc o).heap.size (w.alloc o) w')) := fun wq hq => (rSmall_in hn (by omega) (by omega) wq).mono fun r w' ⟨hr, hb⟩ => ⟨hr, hq.trans (hb.mono hq.size)⟩
  have HP : Hid (∀ wq, Below (w.alloc o).heap.size (w.alloc o) wq → Calls Tryd.prog 22 #[.int .i64 v] wq fun r w' => r = .returned (.agg #[.int .i64 (2 * v + 1), .pointer none]) ∧ Hid (Below (w.alloc o).heap.size (w.alloc o) w')) := fun wq hq => (v_small v wq (by omega) (by omega)).mono fun r w' ⟨hr, hb⟩ => ⟨hr, hq.trans (hb.mono hq.size)⟩
  have HV : Hid (∀ w1, Below (w.alloc o).heap.size (w.alloc o) w1 → ∃ W, (w1.setCell ⟨w.heap.size, 0, none⟩ (.int .i64 (2 * v + 1))).setCell ⟨w.heap.size, 1, none⟩ (.pointer none) = W ∧ W.cell? ⟨w.heap.size, 0, none⟩ = some (.int .i64 (2 * v + 1)) ∧ W.cell? ⟨w.heap.size, 1, none⟩ = some (.pointer none) ∧ Below w.heap.size w W ∧ w1.cell? ⟨w.heap.size, 0, none⟩ = some (.int .i64 0) ∧ w1.cell? ⟨w.heap.size, 1, none⟩ = some (.pointer none) ∧ w1.frozen? ⟨w.heap.size, 0, none⟩ = false ∧ w1.frozen? ⟨w.heap.size, 1, none⟩ = false) := fun w1 hw => vbox ho.symm hw
  have k0 : Hid (Below (w.alloc o).heap.size (w.alloc o) (w.alloc o)) := Below.refl _ _
  generalize 2 * v + 1 = z at *
  have d1 : decide (-1099511627776 ≤ v) = true := decide_eq_true h1
  have d2 : decide (v ≤ 1099511627776) = true := decide_eq_true h2
  clear hn h1 h2
  go_enter Tryd.func8, Tryd.ntmps8
  go_wp2_with fail
  try rw [ho]
  refine (HS.out _ k0.out).mono ?_
  rintro r w1 ⟨rfl, k1⟩
  go_wp2_with fail
  refine (HP.out _ k1.out).mono ?_
  rintro r w2 ⟨rfl, k2⟩
  obtain ⟨W, hW, x0, x1, hB, c0, c1, f0, f1⟩ := HV.out _ k2.out
  clear HS HP HV k0 k1 k2
  go_wp2
  try rw [hW]
  exact bodyPost_ret (v := .agg #[.int .i64 z, .pointer none]) (by simp [results, Tryd.results8, go_sem, x0, x1]) rfl ⟨⟨_, _, rfl, rfl⟩, hB⟩
theorem v_number_big {s : ByteArray} {v : Int} (hn : IsNum s v) (hv : v < -1099511627776 ∨ 1099511627776 < v) (w : World) : Calls Tryd.prog 8 #[.string s] w fun r w' => Vn false r ∧ Below w.heap.size w w' := by
  obtain ⟨o, ho⟩ : ∃ o, Obj.cells #[.int .i64 0, .pointer none] 36 = o := ⟨_, rfl⟩
  obtain ⟨x, b, hg, HS⟩ : ∃ x b, Gt x b ∧ Hid (∀ wq, Below (w.alloc o).heap.size (w.alloc o) wq → Calls Tryd.prog 21 #[.string s] wq fun e w' => e = .returned (.tuple #[.int .i64 x, .bool b]) ∧ Hid (Below (w.alloc o).heap.size (w.alloc o) w')) := by
    by_cases hr : -9223372036854775808 ≤ v ∧ v ≤ 9223372036854775807
    · exact ⟨v, true, .inr ⟨rfl, hv⟩, fun wq hq => (rSmall_in hn hr.1 hr.2 wq).mono fun r w' ⟨hr, hb⟩ => ⟨hr, hq.trans (hb.mono hq.size)⟩⟩
    · exact ⟨0, false, .inl rfl, fun wq hq => (rSmall_out hn (by omega) wq).mono fun r w' ⟨hr, hb⟩ => ⟨hr, hq.trans (hb.mono hq.size)⟩⟩
  have HP : Hid (∀ wq, Below (w.alloc o).heap.size (w.alloc o) wq → Calls Tryd.prog 23 #[.int .i64 5, .string s] wq fun r w' => ∃ p, r = .returned (.agg #[.int .i64 0, .pointer (some p)]) ∧ Hid (Below (w.alloc o).heap.size (w.alloc o) w')) := fun wq hq => (v_text s wq).mono fun r w' ⟨p, hr, hb⟩ => ⟨p, hr, hq.trans (hb.mono hq.size)⟩
  have HV : Hid (∀ p w1, Below (w.alloc o).heap.size (w.alloc o) w1 → ∃ W, (w1.setCell ⟨w.heap.size, 0, none⟩ (.int .i64 0)).setCell ⟨w.heap.size, 1, none⟩ (.pointer (some p)) = W ∧ W.cell? ⟨w.heap.size, 0, none⟩ = some (.int .i64 0) ∧ W.cell? ⟨w.heap.size, 1, none⟩ = some (.pointer (some p)) ∧ Below w.heap.size w W ∧ w1.cell? ⟨w.heap.size, 0, none⟩ = some (.int .i64 0) ∧ w1.cell? ⟨w.heap.size, 1, none⟩ = some (.pointer none) ∧ w1.frozen? ⟨w.heap.size, 0, none⟩ = false ∧ w1.frozen? ⟨w.heap.size, 1, none⟩ = false) := fun p w1 hw => vbox ho.symm hw
  have k0 : Hid (Below (w.alloc o).heap.size (w.alloc o) (w.alloc o)) := Below.refl _ _
  clear hn hv
  have step : ∀ (d : (b = false) ∨ (b = true ∧ decide (-1099511627776 ≤ x) = false) ∨ (b = true ∧ decide (-1099511627776 ≤ x) = true ∧ decide (x ≤ 1099511627776) = false)), Calls Tryd.prog 8 #[.string s] w fun r w' => Vn false r ∧ Below w.heap.size w w' := fun d => by
    clear hg
    rcases d with rfl | ⟨rfl, d1⟩ | ⟨rfl, d1, d2⟩
    all_goals
      go_enter Tryd.func8, Tryd.ntmps8
      go_wp2_with fail
      try rw [ho]
      refine (HS.out _ k0.out).mono ?_
      rintro r w1 ⟨rfl, k1⟩
      go_wp2_with fail
      refine (HP.out _ k1.out).mono ?_
      rintro r w2 ⟨p, rfl, k2⟩
      obtain ⟨W, hW, x0, x1, hB, c0, c1, f0, f1⟩ := HV.out p _ k2.out
      clear HS HP HV k0 k1 k2
      go_wp2
      try rw [hW]
      exact bodyPost_ret (v := .agg #[.int .i64 0, .pointer (some p)]) (by simp [results, Tryd.results8, go_sem, x0, x1]) rfl ⟨⟨_, _, rfl, rfl⟩, hB⟩
  refine step ?_
  rcases hg with hg | ⟨hb, hg⟩
  · exact .inl hg
  · by_cases h1 : -1099511627776 ≤ x
    · exact .inr (.inr ⟨hb, decide_eq_true h1, decide_eq_false (by omega)⟩)
    · exact .inr (.inl ⟨hb, decide_eq_false h1⟩)
theorem v_kind0 (z : Int) (w : World) : Calls Tryd.prog 24 #[.agg #[.int .i64 z, .pointer none]] w fun r w' => r = .returned (.int .i64 0) ∧ Below w.heap.size w w' := by
  obtain ⟨o, ho⟩ : ∃ o, Obj.cells #[.int .i64 z, .pointer none] 36 = o := ⟨_, rfl⟩
  have bo : Below w.heap.size w (w.alloc o) := (Below.refl _ w).alloc (Nat.le_refl _) o
  have hb : (w.alloc o).heap[w.heap.size]? = some (.cells #[.int .i64 z, .pointer none] 36 (0, 0)) := by rw [← ho]; exact heap_alloc_at _ _ _ rfl
  have c1 : (w.alloc o).cell? ⟨w.heap.size, 1, none⟩ = some (.pointer none) := by rw [cells_at hb 1]; rfl
  clear hb
  go_enter Tryd.func24, Tryd.ntmps24
  go_wp2
  try rw [ho]
  go_ret
  exact ⟨rfl, bo⟩
theorem v_digits (n : Int) (h1 : -4611686018427387904 ≤ n) (h2 : n ≤ 4611686018427387903) (w : World) : Calls Tryd.prog 9 #[.agg #[.int .i64 (2 * n + 1), .pointer none]] w fun r w' => r = .returned (.tuple #[.string (txt n), .bool true]) ∧ Below w.heap.size w w' := by
  obtain ⟨z, hz⟩ : ∃ z, 2 * n + 1 = z := ⟨_, rfl⟩
  rw [hz]
  obtain ⟨o, ho⟩ : ∃ o, Obj.cells #[.int .i64 z, .pointer none] 36 = o := ⟨_, rfl⟩
  have bo : Below w.heap.size w (w.alloc o) := (Below.refl _ w).alloc (Nat.le_refl _) o
  have hb : (w.alloc o).heap[w.heap.size]? = some (.cells #[.int .i64 z, .pointer none] 36 (0, 0)) := by rw [← ho]; exact heap_alloc_at _ _ _ rfl
  have HS : Hid (∀ wq, Below (w.alloc o).heap.size (w.alloc o) wq → wq.cell? ⟨w.heap.size, 0, none⟩ = some (.int .i64 z) ∧ wq.cell? ⟨w.heap.size, 1, none⟩ = some (.pointer none)) := fun wq hq => by
    have hb2 := (hq.block w.heap.size (by simp)).trans hb
    exact ⟨by rw [cells_at hb2 0]; rfl, by rw [cells_at hb2 1]; rfl⟩
  have HK : Hid (∀ wq, Below (w.alloc o).heap.size (w.alloc o) wq → Calls Tryd.prog 24 #[.agg #[.int .i64 z, .pointer none]] wq fun r w' => r = .returned (.int .i64 0) ∧ Hid (Below (w.alloc o).heap.size (w.alloc o) w')) := fun wq hq => (v_kind0 z wq).mono fun r w' ⟨hr, hb⟩ => ⟨hr, hq.trans (hb.mono hq.size)⟩
  have HF : Hid (∀ wq, Below (w.alloc o).heap.size (w.alloc o) wq → Calls Tryd.prog 25 #[.int .i64 n] wq fun r w' => r = .returned (.string (txt n)) ∧ Hid (Below w.heap.size w w')) := fun wq hq => (rOfN n (by omega) (by omega) wq).mono fun r w' ⟨hr, hb⟩ => ⟨hr, (bo.trans (hq.mono bo.size)).trans (hb.mono (by have := bo.size; have := hq.size; omega))⟩
  have k0 : Hid (Below (w.alloc o).heap.size (w.alloc o) (w.alloc o)) := Below.refl _ _
  obtain ⟨c0, c1⟩ := HS.out _ k0.out
  have e1 : (z.tmod 2 == 0) = false := by
    have : z.tmod 2 ≠ 0 := fun h => by
      obtain ⟨k, hk⟩ := Int.dvd_of_tmod_eq_zero h
      omega
    simpa using this
  have e2 : (z - 1).tdiv 2 = n := by
    rw [show z - 1 = 2 * n by omega]
    exact Int.mul_tdiv_cancel_left n (by decide)
  have bz : -9223372036854775807 ≤ z ∧ z ≤ 9223372036854775807 := by omega
  have HE : Hid (n = (z - 1).tdiv 2) := e2.symm
  generalize txt n = T at *
  rw [HE.out] at HF
  clear hb bo hz h1 h2 e2 HE
  generalize hW : w.alloc o = W at *
  go_enter Tryd.func9, Tryd.ntmps9
  go_wp2_with fail
  try rw [ho]
  try rw [hW]
  refine (HK.out _ k0.out).mono ?_
  rintro r w1 ⟨rfl, k1⟩
  clear c0 c1
  obtain ⟨c0, c1⟩ := HS.out _ k1.out
  go_wp2_with fail
  refine (HF.out _ k1.out).mono ?_
  rintro r w2 ⟨rfl, k2⟩
  go_wp2
  go_ret2
  exact ⟨rfl, k2.out⟩
end Go.Proofs.YtnekefchbienoaaDoor
