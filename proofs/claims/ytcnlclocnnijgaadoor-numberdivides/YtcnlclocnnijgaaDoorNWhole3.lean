/-
  Whole numbers of the program: contract of plus. Condition: at most 200 limbs each.
-/
import Derived.Test.YtcnlclocnnijgaaDoorNWhole2
import Derived.Deep.RegionHeld
namespace Go.Proofs.YtcnlclocnnijgaaDoor
open Go.RowKit
set_option linter.unusedVariables false

set_option maxRecDepth 100000 in
set_option maxHeartbeats 2000000 in
theorem hPlus_same (vx vy : Value) (x y : Int) (w : World) (hx : Wh w vx x) (hy : Wh w vy y) (lx : ln x.natAbs ≤ 200) (ly : ln y.natAbs ≤ 200) (he : decide (x < 0) = decide (y < 0)) :
    Calls Tryd.prog 33 #[vx, vy] w fun e w' => ∃ v', e = .returned v' ∧ Wh w' v' (x + y) ∧ Below w.heap.size w w' := by
  obtain ⟨ao, c, rfl, hs, hl⟩ := hx
  obtain ⟨bo, d, rfl, ht, hm⟩ := hy
  have hsg : sg (decide (x < 0)) (x.natAbs + y.natAbs) = x + y := by
    unfold sg
    by_cases h : x < 0
    · have : y < 0 := by simpa [h] using he
      simp [h]; omega
    · have : ¬ y < 0 := by simpa [h] using he
      simp [h]; omega
  have hlm := ln_add x.natAbs y.natAbs
  rw [← he]
  generalize hn : ln x.natAbs = n at *
  generalize hm0 : ln y.natAbs = m at *
  clear he
  generalize decide (x < 0) = bx at *
  have e1 : (bx == bx) = true := by simp
  obtain ⟨W0, hW0⟩ : ∃ W0, ((w.alloc (.cells #[.bool bx, .slice ao n c] 48)).alloc (.cells #[.bool bx, .slice bo m d] 48)).alloc (.cells #[.bool false, .slice none 0 0] 48) = W0 := ⟨_, rfl⟩
  have hsz : W0.heap.size = w.heap.size + 3 := by rw [← hW0]; simp
  have hB0 : Below w.heap.size w W0 := by rw [← hW0]; exact (((Below.refl _ w).alloc (Nat.le_refl _) _).alloc (by simp) _).alloc (by first | (simp; done) | (simp; omega)) _
  have hX0 : W0.heap[w.heap.size]? = some (.cells #[.bool bx, .slice ao n c] 48 (0, 0)) := by
    rw [← hW0, Below.heap_alloc _ _ _ (by first | (simp; done) | (simp; omega)), Below.heap_alloc _ _ _ (by simp)]
    exact heap_alloc_at _ _ _ rfl
  have hX1 : W0.heap[w.heap.size + 1]? = some (.cells #[.bool bx, .slice bo m d] 48 (0, 0)) := by
    rw [← hW0, Below.heap_alloc _ _ _ (by simp)]
    exact heap_alloc_at _ _ _ (by simp)
  have hX2 : W0.heap[w.heap.size + 1 + 1]? = some (.cells #[.bool false, .slice none 0 0] 48 (0, 0)) := by
    rw [← hW0]
    exact heap_alloc_at _ _ _ (by simp)
  have hb0 : Below W0.heap.size W0 W0.drew := blw_drewN 1 (Below.refl _ W0)
  have HS : Hid (∀ wq, Below W0.heap.size W0 wq → wq.cell? ⟨w.heap.size, 0, none⟩ = some (.bool bx) ∧ wq.cell? ⟨w.heap.size, 1, none⟩ = some (.slice ao n c) ∧ wq.cell? ⟨w.heap.size + 1, 0, none⟩ = some (.bool bx) ∧ wq.cell? ⟨w.heap.size + 1, 1, none⟩ = some (.slice bo m d)) := fun wq hq => by
    have e0 : wq.heap[w.heap.size]? = _ := (hq.block _ (by omega)).trans hX0
    have e1 : wq.heap[w.heap.size + 1]? = _ := (hq.block _ (by omega)).trans hX1
    exact ⟨by rw [cells_at e0 0]; rfl, by rw [cells_at e0 1]; rfl, by rw [cells_at e1 0]; rfl, by rw [cells_at e1 1]; rfl⟩
  have HS2 : Hid (∀ wq u u', Below W0.heap.size W0 wq → ((wq.setCell ⟨w.heap.size + 1 + 1, 0, none⟩ u).setCell ⟨w.heap.size + 1 + 1, 1, none⟩ u').cell? ⟨w.heap.size, 0, none⟩ = some (.bool bx) ∧ ((wq.setCell ⟨w.heap.size + 1 + 1, 0, none⟩ u).setCell ⟨w.heap.size + 1 + 1, 1, none⟩ u').cell? ⟨w.heap.size, 1, none⟩ = some (.slice ao n c) ∧ ((wq.setCell ⟨w.heap.size + 1 + 1, 0, none⟩ u).setCell ⟨w.heap.size + 1 + 1, 1, none⟩ u').cell? ⟨w.heap.size + 1, 0, none⟩ = some (.bool bx) ∧ ((wq.setCell ⟨w.heap.size + 1 + 1, 0, none⟩ u).setCell ⟨w.heap.size + 1 + 1, 1, none⟩ u').cell? ⟨w.heap.size + 1, 1, none⟩ = some (.slice bo m d)) := fun wq u u' hq => by
    obtain ⟨q1, q2, q3, q4⟩ := HS.out wq hq
    exact ⟨by rw [World.cell?_setCell_other _ _ _ _ (by first | (simp; done) | (simp; omega)), World.cell?_setCell_other _ _ _ _ (by first | (simp; done) | (simp; omega))]; exact q1, by rw [World.cell?_setCell_other _ _ _ _ (by first | (simp; done) | (simp; omega)), World.cell?_setCell_other _ _ _ _ (by first | (simp; done) | (simp; omega))]; exact q2, by rw [World.cell?_setCell_other _ _ _ _ (by simp), World.cell?_setCell_other _ _ _ _ (by simp)]; exact q3, by rw [World.cell?_setCell_other _ _ _ _ (by simp), World.cell?_setCell_other _ _ _ _ (by simp)]; exact q4⟩
  have HC1 : Hid (∀ wq, Below W0.heap.size W0 wq → Calls Tryd.prog 56 #[.slice ao n c, .slice bo m d] wq fun e w' => ∃ v, e = .returned v ∧ (∃ a' n' c', v = .slice a' n' c') ∧ Hid (Sz w' v (x.natAbs + y.natAbs)) ∧ Below W0.heap.size W0 w') := fun wq hq => by
    have k : Below w.heap.size w wq := hB0.trans (hq.mono (by omega))
    refine (sPlus _ _ x.natAbs y.natAbs wq (hs.below k (Nat.le_refl _)) (ht.below k (Nat.le_refl _)) (by omega) (by omega)).mono ?_
    rintro e w' ⟨v, rfl, ho, hb⟩
    obtain ⟨a', c', e, _⟩ := ho.sz.open
    exact ⟨v, rfl, ⟨_, _, _, e⟩, ho.sz, hq.trans (hb.mono hq.size)⟩
  have HC2 : Hid (∀ w1 v, Below W0.heap.size W0 w1 → Sz w1 v (x.natAbs + y.natAbs) → Calls Tryd.prog 43 #[.bool bx, v] w1 fun e w' => ∃ b' sl, e = .returned (.agg #[.bool b', sl]) ∧ (∃ a' n' c', sl = .slice a' n' c') ∧ BoxF w' (w.heap.size + 1 + 1) (.bool false) (.slice none 0 0) (.bool b') sl ∧ Below W0.heap.size W0 w' ∧ Hid (∀ wf : World, wf.heap = ((w'.setCell ⟨w.heap.size + 1 + 1, 0, none⟩ (.bool b')).setCell ⟨w.heap.size + 1 + 1, 1, none⟩ sl).heap → wf.os = w'.os → wf.tape = w'.tape → wf.output = w'.output → Wh wf (.agg #[.bool b', sl]) (x + y) ∧ Below w.heap.size w wf)) := fun w1 v hq hs1 => by
    refine (signed_to _ v _ (w.heap.size + 1 + 1) 48 (.slice none 0 0) false w w1 (x + y) hs1 (by omega) hsg ((hq.block _ (by omega)).trans hX2) (hB0.trans (hq.mono (by omega))) (by omega)).mono ?_
    rintro e w' ⟨b', sl, q1, q2, q3, q4, q5⟩
    exact ⟨b', sl, q1, q2, q3, hq.trans (q4.mono hq.size), q5⟩
  clear hs ht hsg hlm hX0 hX1 hX2 hB0 hn hm0
  obtain ⟨d0, d1, d2, d3⟩ := HS.out W0 (Below.refl _ _)
  go_enter Tryd.func33, Tryd.ntmps33
  go_wp2_with fail
  go_region_held (fun wq => wq.cell? ⟨w.heap.size, 0, none⟩ = some (.bool bx) ∧ wq.cell? ⟨w.heap.size, 1, none⟩ = some (.slice ao n c) ∧ wq.cell? ⟨w.heap.size + 1, 0, none⟩ = some (.bool bx) ∧ wq.cell? ⟨w.heap.size + 1, 1, none⟩ = some (.slice bo m d))
    (first | exact HS.out _ (by assumption) | exact HS2.out _ _ _ (by assumption) | go_keep)
    (first
      | (go_at_call 56; refine (HC1.out _ hb0).mono ?_; rintro e' w1 ⟨v1, rfl, ⟨a1, n1, c1, rfl⟩, z1, k1⟩)
      | (go_at_call 43; refine (HC2.out _ _ k1 z1.out).mono ?_; rintro e' w2 ⟨b2, sl2, rfl, ⟨a2, n2, c2, rfl⟩, ⟨x0, x1, x2, x3, x4, x5⟩, k2, HX⟩))
  go_wp2
  refine bodyPost_ret (v := .agg #[.bool b2, .slice a2 n2 c2]) (by simp [results, Tryd.results33, go_sem, x4, x5]) rfl ?_
  exact ⟨_, rfl, HX.out _ (by rfl) (by rfl) (by rfl) (by rfl)⟩
theorem sCompare (vs vt : Value) (n m : Nat) (w : World) (hs : Sz w vs n) (ht : Sz w vt m) :
    Calls Tryd.prog 57 #[vs, vt] w fun e w' => e = .returned (.int .i64 (cmpI n m)) ∧ Below w.heap.size w w' := by
  by_cases h : ln n = ln m
  · exact sCompare_eq vs vt n m w hs ht h
  · exact sCompare_ne vs vt n m w hs ht h

set_option maxRecDepth 100000 in
set_option maxHeartbeats 2000000 in
theorem hPlus_ge (vx vy : Value) (x y : Int) (w : World) (hx : Wh w vx x) (hy : Wh w vy y) (lx : ln x.natAbs ≤ 200) (ly : ln y.natAbs ≤ 200) (he : decide (x < 0) ≠ decide (y < 0)) (hge : y.natAbs ≤ x.natAbs) :
    Calls Tryd.prog 33 #[vx, vy] w fun e w' => ∃ v', e = .returned v' ∧ Wh w' v' (x + y) ∧ Below w.heap.size w w' := by
  obtain ⟨ao, c, rfl, hs, hl⟩ := hx
  obtain ⟨bo, d, rfl, ht, hm⟩ := hy
  have hsg : sg (decide (x < 0)) (x.natAbs - y.natAbs) = x + y := by
    unfold sg
    by_cases h : x < 0
    · have : ¬ y < 0 := by simpa [h] using he
      simp [h]; omega
    · have : y < 0 := by simpa [h] using he
      simp [h]; omega
  have hlm : ln (x.natAbs - y.natAbs) ≤ ln x.natAbs := ln_mono (by omega)
  have HCm : Hid (∀ wq, Below w.heap.size w wq → Calls Tryd.prog 57 #[.slice ao (ln x.natAbs) c, .slice bo (ln y.natAbs) d] wq fun e w' => e = .returned (.int .i64 (cmpI (x.natAbs : Int) (y.natAbs : Int))) ∧ Below wq.heap.size wq w') := fun wq hq => sCompare _ _ _ _ wq (hs.below hq (Nat.le_refl _)) (ht.below hq (Nat.le_refl _))
  have hc0 : ¬ cmpI (x.natAbs : Int) (y.natAbs : Int) < 0 := by
    rcases Int.lt_trichotomy (x.natAbs : Int) (y.natAbs : Int) with h | h | h
    · omega
    · rw [cmpI_eq h]; decide
    · rw [cmpI_gt h]; decide
  generalize hn : ln x.natAbs = n at *
  generalize hm0 : ln y.natAbs = m at *
  have e1 : (decide (x < 0) == decide (y < 0)) = false := by rw [beq_eq_false_iff_ne]; exact he
  clear he
  generalize decide (x < 0) = bx at *
  generalize decide (y < 0) = by' at *
  generalize cmpI (x.natAbs : Int) (y.natAbs : Int) = C at *
  obtain ⟨W0, hW0⟩ : ∃ W0, ((w.alloc (.cells #[.bool bx, .slice ao n c] 48)).alloc (.cells #[.bool by', .slice bo m d] 48)).alloc (.cells #[.bool false, .slice none 0 0] 48) = W0 := ⟨_, rfl⟩
  have hsz : W0.heap.size = w.heap.size + 3 := by rw [← hW0]; simp
  have hB0 : Below w.heap.size w W0 := by rw [← hW0]; exact (((Below.refl _ w).alloc (Nat.le_refl _) _).alloc (by simp) _).alloc (by first | (simp; done) | (simp; omega)) _
  have hX0 : W0.heap[w.heap.size]? = some (.cells #[.bool bx, .slice ao n c] 48 (0, 0)) := by
    rw [← hW0, Below.heap_alloc _ _ _ (by first | (simp; done) | (simp; omega)), Below.heap_alloc _ _ _ (by simp)]
    exact heap_alloc_at _ _ _ rfl
  have hX1 : W0.heap[w.heap.size + 1]? = some (.cells #[.bool by', .slice bo m d] 48 (0, 0)) := by
    rw [← hW0, Below.heap_alloc _ _ _ (by simp)]
    exact heap_alloc_at _ _ _ (by simp)
  have hX2 : W0.heap[w.heap.size + 1 + 1]? = some (.cells #[.bool false, .slice none 0 0] 48 (0, 0)) := by
    rw [← hW0]
    exact heap_alloc_at _ _ _ (by simp)
  have HS : Hid (∀ wq, Below W0.heap.size W0 wq → wq.cell? ⟨w.heap.size, 0, none⟩ = some (.bool bx) ∧ wq.cell? ⟨w.heap.size, 1, none⟩ = some (.slice ao n c) ∧ wq.cell? ⟨w.heap.size + 1, 0, none⟩ = some (.bool by') ∧ wq.cell? ⟨w.heap.size + 1, 1, none⟩ = some (.slice bo m d)) := fun wq hq => by
    have e0 : wq.heap[w.heap.size]? = _ := (hq.block _ (by omega)).trans hX0
    have e1 : wq.heap[w.heap.size + 1]? = _ := (hq.block _ (by omega)).trans hX1
    exact ⟨by rw [cells_at e0 0]; rfl, by rw [cells_at e0 1]; rfl, by rw [cells_at e1 0]; rfl, by rw [cells_at e1 1]; rfl⟩
  have HS2 : Hid (∀ wq u u', Below W0.heap.size W0 wq → ((wq.setCell ⟨w.heap.size + 1 + 1, 0, none⟩ u).setCell ⟨w.heap.size + 1 + 1, 1, none⟩ u').cell? ⟨w.heap.size, 0, none⟩ = some (.bool bx) ∧ ((wq.setCell ⟨w.heap.size + 1 + 1, 0, none⟩ u).setCell ⟨w.heap.size + 1 + 1, 1, none⟩ u').cell? ⟨w.heap.size, 1, none⟩ = some (.slice ao n c) ∧ ((wq.setCell ⟨w.heap.size + 1 + 1, 0, none⟩ u).setCell ⟨w.heap.size + 1 + 1, 1, none⟩ u').cell? ⟨w.heap.size + 1, 0, none⟩ = some (.bool by') ∧ ((wq.setCell ⟨w.heap.size + 1 + 1, 0, none⟩ u).setCell ⟨w.heap.size + 1 + 1, 1, none⟩ u').cell? ⟨w.heap.size + 1, 1, none⟩ = some (.slice bo m d)) := fun wq u u' hq => by
    obtain ⟨q1, q2, q3, q4⟩ := HS.out wq hq
    exact ⟨by rw [World.cell?_setCell_other _ _ _ _ (by first | (simp; done) | (simp; omega)), World.cell?_setCell_other _ _ _ _ (by first | (simp; done) | (simp; omega))]; exact q1, by rw [World.cell?_setCell_other _ _ _ _ (by first | (simp; done) | (simp; omega)), World.cell?_setCell_other _ _ _ _ (by first | (simp; done) | (simp; omega))]; exact q2, by rw [World.cell?_setCell_other _ _ _ _ (by simp), World.cell?_setCell_other _ _ _ _ (by simp)]; exact q3, by rw [World.cell?_setCell_other _ _ _ _ (by simp), World.cell?_setCell_other _ _ _ _ (by simp)]; exact q4⟩
  have HC1 : Hid (∀ wq, Below W0.heap.size W0 wq → Calls Tryd.prog 58 #[.slice ao n c, .slice bo m d] wq fun e w' => ∃ v, e = .returned v ∧ (∃ a' n' c', v = .slice a' n' c') ∧ Hid (Sz w' v (x.natAbs - y.natAbs)) ∧ Below W0.heap.size W0 w') := fun wq hq => by
    have k : Below w.heap.size w wq := hB0.trans (hq.mono (by omega))
    refine (sMinus _ _ x.natAbs y.natAbs wq (hs.below k (Nat.le_refl _)) (ht.below k (Nat.le_refl _)) (by omega) (by omega) hge).mono ?_
    rintro e w' ⟨v, rfl, ho, hb⟩
    obtain ⟨a', c', e, _⟩ := ho.sz.open
    exact ⟨v, rfl, ⟨_, _, _, e⟩, ho.sz, hq.trans (hb.mono hq.size)⟩
  have HC2 : Hid (∀ w1 v, Below W0.heap.size W0 w1 → Sz w1 v (x.natAbs - y.natAbs) → Calls Tryd.prog 43 #[.bool bx, v] w1 fun e w' => ∃ b' sl, e = .returned (.agg #[.bool b', sl]) ∧ (∃ a' n' c', sl = .slice a' n' c') ∧ BoxF w' (w.heap.size + 1 + 1) (.bool false) (.slice none 0 0) (.bool b') sl ∧ Below W0.heap.size W0 w' ∧ Hid (∀ wf : World, wf.heap = ((w'.setCell ⟨w.heap.size + 1 + 1, 0, none⟩ (.bool b')).setCell ⟨w.heap.size + 1 + 1, 1, none⟩ sl).heap → wf.os = w'.os → wf.tape = w'.tape → wf.output = w'.output → Wh wf (.agg #[.bool b', sl]) (x + y) ∧ Below w.heap.size w wf)) := fun w1 v hq hs1 => by
    refine (signed_to _ v _ (w.heap.size + 1 + 1) 48 (.slice none 0 0) false w w1 (x + y) hs1 (by omega) hsg ((hq.block _ (by omega)).trans hX2) (hB0.trans (hq.mono (by omega))) (by omega)).mono ?_
    rintro e w' ⟨b', sl, q1, q2, q3, q4, q5⟩
    exact ⟨b', sl, q1, q2, q3, hq.trans (q4.mono hq.size), q5⟩
  clear hs ht hsg hlm hX0 hX1 hX2 hn hm0
  obtain ⟨d0, d1, d2, d3⟩ := HS.out W0 (Below.refl _ _)
  go_enter Tryd.func33, Tryd.ntmps33
  go_wp2_with fail
  refine (HCm.out _ hB0).mono ?_
  rintro e wc ⟨rfl, hbc⟩
  have hb0 : Below W0.heap.size W0 wc.drew := blw_drewN 1 hbc
  obtain ⟨g0, g1, g2, g3⟩ := HS.out wc hbc
  go_wp2_with fail
  go_region_held (fun wq => wq.cell? ⟨w.heap.size, 0, none⟩ = some (.bool bx) ∧ wq.cell? ⟨w.heap.size, 1, none⟩ = some (.slice ao n c) ∧ wq.cell? ⟨w.heap.size + 1, 0, none⟩ = some (.bool by') ∧ wq.cell? ⟨w.heap.size + 1, 1, none⟩ = some (.slice bo m d))
    (first | exact HS.out _ (by assumption) | exact HS2.out _ _ _ (by assumption) | go_keep)
    (first
      | (go_at_call 58; refine (HC1.out _ hb0).mono ?_; rintro e' w1 ⟨v1, rfl, ⟨a1, n1, c1, rfl⟩, z1, k1⟩)
      | (go_at_call 43; refine (HC2.out _ _ k1 z1.out).mono ?_; rintro e' w2 ⟨b2, sl2, rfl, ⟨a2, n2, c2, rfl⟩, ⟨x0, x1, x2, x3, x4, x5⟩, k2, HX⟩))
  go_wp2
  refine bodyPost_ret (v := .agg #[.bool b2, .slice a2 n2 c2]) (by simp [results, Tryd.results33, go_sem, x4, x5]) rfl ?_
  exact ⟨_, rfl, HX.out _ (by rfl) (by rfl) (by rfl) (by rfl)⟩
end Go.Proofs.YtcnlclocnnijgaaDoor
