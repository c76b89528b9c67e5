/-
  An object with a text goes into a new heap: add, Text.
-/
import Derived.Test.YtnekefchbienoaaDoorPnB
namespace Go.Proofs.YtnekefchbienoaaDoor
open Go.RowKit
set_option linter.unusedVariables false

/-- A heap with one object, which has a text. -/
def Tx (y : Int) (w : World) (h : Nat) (kd : Int) (s : ByteArray) : Prop := ∃ g c, Hd w h (.slice none 0 0) 0 200000 (.slice (some ⟨g, 0, none⟩) 1 c) (tcells s : Int) y (.slice none 0 0) (.slice none 0 0) 0 0 0 false ∧ w.cell? ⟨g, 0, none⟩ = some (.int .i64 kd) ∧ w.cell? ⟨g, 1, none⟩ = some (.slice none 0 0) ∧ w.cell? ⟨g, 2, none⟩ = some (.string s) ∧ g ≠ h ∧ g < w.heap.size
theorem Tx.dr {y : Int} {w w' : World} {h : Nat} {kd : Int} {s : ByteArray} (k : Tx y w h kd s) (d : Dr w w') : Tx y w' h kd s := by obtain ⟨q, rfl⟩ := d; exact k
theorem Tx.below {y : Int} {w w' : World} {h B : Nat} {kd : Int} {s : ByteArray} (k : Tx y w h kd s) (d : Below B w w') (hB : w.heap.size ≤ B) : Tx y w' h kd s := by
  obtain ⟨g, c, k1, k2, k3, k4, k5, k6⟩ := k
  have hh : h < w.heap.size := (Array.getElem?_eq_some_iff.1 k1).1
  have hs := d.size
  refine ⟨g, c, (d.block h (by omega)).trans k1, ?_, ?_, ?_, k5, by omega⟩
  · rw [World.cell?_of_block (w := w) (a := ⟨g, 0, none⟩) (d.block g (by omega))]; exact k2
  · rw [World.cell?_of_block (w := w) (a := ⟨g, 1, none⟩) (d.block g (by omega))]; exact k3
  · rw [World.cell?_of_block (w := w) (a := ⟨g, 2, none⟩) (d.block g (by omega))]; exact k4
def tobj (kd : Int) (s : ByteArray) : List Value := [.int .i64 kd, .slice none 0 0, .string s, .bool false]

set_option maxRecDepth 100000 in
set_option maxHeartbeats 2000000 in
theorem t_add {y : Int} {w : World} {h : Nat} (k : Fh y w h) (kd : Int) (s : ByteArray) (hs : s.size ≤ 4000) (hy : 1000 ≤ y) :
    Calls Tryd.prog 33 #[.pointer (some ⟨h, 0, none⟩), .agg #[.int .i64 kd, .slice none 0 0, .string s, .bool false]] w fun r w' => r = .returned (.tuple #[.int .i64 2, .int .i64 0]) ∧ Hid (Tx y w' h kd s ∧ Part (fun q => q = h) w w') := by
  have k1 : Hd w h _ _ _ _ _ _ _ _ _ _ _ _ := k
  have hhl : h < w.heap.size := (Array.getElem?_eq_some_iff.1 k1).1
  obtain ⟨o, ho⟩ : ∃ o, Obj.cells #[.int .i64 kd, .slice none 0 0, .string s, .bool false] 64 = o := ⟨_, rfl⟩
  have bo : Below w.heap.size w (w.alloc o) := (Below.refl _ w).alloc (Nat.le_refl _) o
  have hbox : (w.alloc o).heap[w.heap.size]? = some (.cells #[.int .i64 kd, .slice none 0 0, .string s, .bool false] 64 (0, 0)) := by rw [← ho]; exact heap_alloc_at _ _ _ rfl
  have HC : Hid (Calls Tryd.prog 45 #[.pointer (some ⟨w.heap.size, 0, none⟩)] (w.alloc o) fun r w' => r = .returned (.int .i64 (tcells s : Int)) ∧ Dr (w.alloc o) w') := t_cells (g := w.heap.size) (off := 0) (by rw [cells_at hbox 1]; rfl) (by rw [cells_at hbox 2]; rfl) hs
  have HS : Hid (∀ wq, Dr (w.alloc o) wq → wq.cell? ⟨h, 4, none⟩ = some (.int .i64 0) ∧ wq.cell? ⟨h, 5, none⟩ = some (.int .i64 y) ∧ wq.cell? ⟨h, 11, none⟩ = some (.bool false) ∧ wq.cell? ⟨w.heap.size, 0, none⟩ = some (.int .i64 kd) ∧ wq.cell? ⟨w.heap.size, 1, none⟩ = some (.slice none 0 0) ∧ wq.cell? ⟨w.heap.size, 2, none⟩ = some (.string s) ∧ wq.cell? ⟨w.heap.size, 3, none⟩ = some (.bool false)) := fun wq hq => by
    obtain ⟨q, rfl⟩ := hq
    have e1 : Hd (w.alloc o) h _ _ _ _ _ _ _ _ _ _ _ _ := (bo.block h hhl).trans k1
    obtain ⟨_, _, _, _, c4, c5, _, _, _, _, _, c11⟩ := hget e1
    exact ⟨c4, c5, c11, by show (w.alloc o).cell? _ = _; rw [cells_at hbox 0]; rfl, by show (w.alloc o).cell? _ = _; rw [cells_at hbox 1]; rfl, by show (w.alloc o).cell? _ = _; rw [cells_at hbox 2]; rfl, by show (w.alloc o).cell? _ = _; rw [cells_at hbox 3]; rfl⟩
  have HPA : Hid (∀ wq l, Dr (w.alloc o) wq → l = Obj.cells #[.int .i64 kd, .slice none 0 0, .string s, .bool false] 64 → ∀ lb, lb = wq.heap.size → Calls Tryd.prog 47 #[.pointer (some ⟨h, 3, none⟩), .slice (some ⟨lb, 0, none⟩) 1 1] (wq.alloc l) fun r w' => r = .returned (.tuple #[]) ∧ Hid (Tx y w' h kd s ∧ Part (fun q => q = h) w w')) := fun wq l hq hl lb hlb => by
    subst hlb
    have bq : Below w.heap.size w (wq.alloc l) := by
      obtain ⟨q, rfl⟩ := hq
      exact (blw_drewN q bo).alloc (by simp) l
    have hsq : w.heap.size < wq.heap.size := by
      obtain ⟨q, rfl⟩ := hq
      show w.heap.size < (w.alloc o).heap.size
      simp
    have hsl : (wq.alloc l).heap.size = wq.heap.size + 1 := by simp
    have e1 := (bq.block h hhl).trans k1
    have hlq : (wq.alloc l).heap[wq.heap.size]? = some (.cells (tobj kd s).toArray 64 (0, 0)) := by rw [hl]; exact heap_alloc_at _ _ _ rfl
    refine (h_partAddG (w := wq.alloc l) (b := h) (p := 3) (n := 0) (xs := []) (v := .slice none 0 0) (lb := wq.heap.size) (cc := tcells s) (ob := tobj kd s) (yc := 0) e1 rfl rfl (World.ownsRow_nil _ _ _ _) (by simp [Value.ownBlock]) (by simp [Value.ownBlock]) hlq (by omega) rfl (fun u hu => by simp [tobj] at hu; rcases hu with rfl | rfl | rfl | rfl <;> rfl) (fun wq' hq' => t_cells (g := wq.heap.size) (off := 0) (by rw [cells_at hq' 1]; rfl) (by rw [cells_at hq' 2]; rfl) hs) (by unfold tcells; omega) (by omega) (by omega)).mono ?_
    rintro r w' ⟨v', rfl, z1, z2, z3, z4⟩
    have hs3 := z3.size
    refine ⟨rfl, ?_, ?_⟩
    · have hc := fun g => World.ownsRow.cells (g := g) z2
      rcases z2.2 with ⟨_, h0⟩ | ⟨g, cap, cur, rfl, _, hblk, _⟩
      · omega
      · have e0 := hc g rfl 0 (.int .i64 kd) rfl
        have e1' := hc g rfl 1 (.slice none 0 0) rfl
        have e2 := hc g rfl 2 (.string s) rfl
        rw [Addr.add_lit, Nat.zero_add] at e0 e1' e2
        refine ⟨g, cap, ?_, e0, e1', e2, ?_, World.block_lt_of_cell? _ _ e0⟩
        · simp only [Nat.zero_add] at z1
          exact z1
        · rcases z4 with z4 | ⟨k, z4, hk⟩
          · simp [Value.ownBlock] at z4
          · simp [Value.ownBlock] at z4
            omega
    · refine (Part.ofBelow (F := fun q => q = h) bq).trans z3 (fun q _ hq => ?_)
      rcases hq with rfl | hq
      · rfl
      · simp [Value.ownBlock] at hq
  have HFin : Hid (∀ w', Tx y w' h kd s → Hid (∀ wq, Dr w' wq → Calls Tryd.prog 50 #[.pointer (some ⟨h, 0, none⟩)] wq fun r w2 => r = .returned (.int .i64 1) ∧ Dr w' w2) ∧ Hid (∀ wq, Dr w' wq → Calls Tryd.prog 49 #[.int .i64 0] wq fun r w2 => r = .returned (.int .i64 2) ∧ Dr w' w2) ∧ Hid (∀ wq, Dr w' wq → Calls Tryd.prog 48 #[.pointer (some ⟨h, 0, none⟩), .int .i64 2] wq fun r w2 => r = .returned (.int .i64 2) ∧ Dr w' w2) ∧ Hid (∀ wq, Dr w' wq → Tx y wq h kd s ∧ Part (fun _ => False) w' wq)) := fun w' hH => by
    refine ⟨fun wq hq => ?_, fun wq hq => ?_, fun wq hq => ?_, fun wq hq => ⟨hH.dr hq, Part.ofBelow hq.below⟩⟩
    · obtain ⟨g, c, e1, _⟩ := hH.dr hq
      exact (h_count e1 (by decide) (by decide)).mono fun r w2 ⟨hr, hw⟩ => ⟨hr, hq.trans hw⟩
    · exact (h_word 0 wq (by decide)).mono fun r w2 ⟨hr, hw⟩ => ⟨hr, by rw [hw]; exact hq⟩
    · obtain ⟨g, c, e1, _⟩ := hH.dr hq
      exact (h_told (sft := 0) e1 (some 0) (fun j hj => by cases hj; decide) (by decide)).mono fun r w2 ⟨hr, hw⟩ => ⟨hr, by rw [hw]; exact hq⟩
  obtain ⟨cc, hcc⟩ : ∃ cc : Int, (tcells s : Int) = cc := ⟨_, rfl⟩
  have hcb : 0 ≤ cc ∧ cc ≤ 501 := by rw [← hcc]; unfold tcells; omega
  rw [hcc] at HC
  have d1 : decide (y < cc) = false := decide_eq_false (by omega)
  have d2 : decide (y < 0 + cc) = false := decide_eq_false (by omega)
  have d3 : ¬ y < cc := by omega
  have k0 : Dr (w.alloc o) (w.alloc o) := Dr.refl _
  clear k k1 bo hbox hhl hcc hs hy
  go_enter Tryd.func33, Tryd.ntmps33
  go_wp2_with fail
  try rw [ho]
  refine HC.out.mono ?_
  rintro r w1 ⟨rfl, q1⟩
  obtain ⟨c4, c5, c11, _, _, _, _⟩ := HS.out _ q1
  go_wp2_with fail
  go_quiet (fail)
  have q2 : Dr (w.alloc o) (w1.drewN nq) := q1.trans ⟨nq, rfl⟩
  generalize w1.drewN nq = w2 at *
  obtain ⟨_, _, _, e0, e1, e2, e3⟩ := HS.out _ q2
  have HP2 : Hid (Calls Tryd.prog 47 #[.pointer (some ⟨h, 3, none⟩), .slice (some ⟨w2.heap.size, 0, none⟩) 1 1] (w2.alloc o).drew fun r w' => r = .returned (.tuple #[]) ∧ Hid (Tx y w' h kd s ∧ Part (fun q => q = h) w w')) := HPA.out w2.drew o q2.drew ho.symm w2.heap.size rfl
  clear c4 c5 c11 HC HS q1 HPA
  go_wp2_with fail
  go_region_with (first
    | (go_at_call 47; refine HP2.out.mono ?_; rintro e' w3 ⟨rfl, HR⟩))
  all_goals
    obtain ⟨G1, G2, G3, G4⟩ := HFin.out _ HR.out.1
    have q3 : Dr w3 w3 := Dr.refl _
    clear HP2 HFin e0 e1 e2 e3 q2
    go_wp2_with fail
    refine (G1.out _ q3).mono ?_
    rintro r w4 ⟨rfl, q4⟩
    go_wp2_with fail
    refine (G2.out _ q4).mono ?_
    rintro r w5 ⟨rfl, q5⟩
    go_wp2_with fail
    refine (G3.out _ q5).mono ?_
    rintro r w6 ⟨rfl, q6⟩
    go_wp2
    go_ret2
    exact ⟨rfl, (G4.out _ q6).1, HR.out.2.trans (G4.out _ q6).2 (fun _ _ h => h.elim)⟩
theorem h_texts5 (w : World) : Calls Tryd.prog 32 #[.int .i64 5] w fun r w' => r = .returned (.bool true) ∧ w' = w := by
  go_enter Tryd.func32, Tryd.ntmps32
  go_wp2
  go_ret
  exact ⟨rfl, rfl⟩
theorem t_text {y : Int} {w : World} {h : Nat} (k : Fh y w h) (s : ByteArray) (hs : s.size ≤ 4000) (hy : 1000 ≤ y) :
    Calls Tryd.prog 16 #[.pointer (some ⟨h, 0, none⟩), .int .i64 5, .string s] w fun r w' => r = .returned (.tuple #[.int .i64 2, .int .i64 0]) ∧ Hid (Tx y w' h 5 s ∧ Part (fun q => q = h) w w') := by
  have HM : Hid (Calls Tryd.prog 31 #[.pointer (some ⟨h, 0, none⟩)] w fun r w' => r = .returned (.bool false) ∧ w' = w) := h_missing k (by simp; omega)
  have HT : Hid (Calls Tryd.prog 32 #[.int .i64 5] w fun r w' => r = .returned (.bool true) ∧ w' = w) := h_texts5 w
  have HA : Hid (Calls Tryd.prog 33 #[.pointer (some ⟨h, 0, none⟩), .agg #[.int .i64 5, .slice none 0 0, .string s, .bool false]] w fun r w' => r = .returned (.tuple #[.int .i64 2, .int .i64 0]) ∧ Hid (Tx y w' h 5 s ∧ Part (fun q => q = h) w w')) := t_add k 5 s hs hy
  have d1 : decide ((4000 : Int) < (s.size : Int)) = false := decide_eq_false (by omega)
  clear k hy
  go_enter Tryd.func16, Tryd.ntmps16
  go_wp2_with fail
  refine HM.out.mono ?_
  rintro r w1 ⟨rfl, hw⟩
  obtain rfl : w = w1 := hw.symm
  clear hw HM
  go_wp2_with fail
  refine HT.out.mono ?_
  rintro r w1 ⟨rfl, hw⟩
  obtain rfl : w = w1 := hw.symm
  clear hw HT
  go_wp2_with fail
  refine HA.out.mono ?_
  rintro r w1 ⟨rfl, HR⟩
  go_wp2
  go_ret2
  exact ⟨rfl, HR⟩
theorem h_isOld {w : World} {h : Nat} {no co : Nat} {ao : Option Addr} (c0 : w.cell? ⟨h, 0, none⟩ = some (.slice ao no co)) (hno : no ≤ 1000) (j : Nat) (hj : j ≤ 1000000000) : Calls Tryd.prog 40 #[.pointer (some ⟨h, 0, none⟩), .int .i64 (2 * (j : Int) + 2)] w fun r w' => r = .returned (.bool (decide (j < no))) ∧ Dr w w' := by
  have HN : Hid (∀ wq, Dr w wq → Calls Tryd.prog 41 #[.int .i64 (2 * (j : Int) + 2)] wq fun r w' => r = .returned (.int .i64 (j : Int)) ∧ Dr w w') := fun wq hq => (h_number j wq hj).mono fun r w' ⟨hr, hw⟩ => ⟨hr, by rw [hw]; exact hq⟩
  have HS : Hid (∀ wq, Dr w wq → wq.cell? ⟨h, 0, none⟩ = some (.slice ao no co)) := fun wq hq => by obtain ⟨q, rfl⟩ := hq; exact c0
  have k0 : Dr w w := Dr.refl w
  have hd : decide ((j : Int) < (no : Int)) = decide (j < no) := by simp
  generalize 2 * (j : Int) + 2 = z at *
  go_enter Tryd.func40, Tryd.ntmps40
  go_wp2_with fail
  go_region_held2 (fun wq => wq.cell? ⟨h, 0, none⟩ = some (.slice ao no co))
    (first | exact HS.out _ (by assumption) | exact HS.out _ (Dr.drew (by assumption)) | go_keep)
    (first
      | (go_at_call 41; refine (HN.out _ (by first | exact k0 | exact k0.drew)).mono ?_; rintro e' w1 ⟨rfl, k1⟩))
  go_wp2
  go_ret
  exact ⟨by simp, k1⟩
end Go.Proofs.YtnekefchbienoaaDoor
