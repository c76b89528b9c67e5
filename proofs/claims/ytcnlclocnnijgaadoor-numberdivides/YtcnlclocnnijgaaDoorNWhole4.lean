/-
  Whole numbers of the program: contract of plus. Condition: at most 200 limbs each.
-/
import Derived.Test.YtcnlclocnnijgaaDoorNWhole3
import Derived.Deep.RegionHeld
namespace Go.Proofs.YtcnlclocnnijgaaDoor
open Go.RowKit
set_option linter.unusedVariables false

/-- What the last statement of plus needs: two boxes with the greater and the lesser number, and one for the answer. -/
theorem last_part (x y : Int) (ao bo : Option Addr) (c d A : Nat) (b1 b2 : Bool) (w W : World) (z : Int) (hs : Sz w (.slice ao (ln x.natAbs) c) x.natAbs) (ht : Sz w (.slice bo (ln y.natAbs) d) y.natAbs) (lx : ln x.natAbs ≤ 200) (ly : ln y.natAbs ≤ 200) (hge : y.natAbs ≤ x.natAbs) (hsg : sg b1 (x.natAbs - y.natAbs) = z)
    (hA : w.heap.size ≤ A) (hB : Below w.heap.size w W) (hX0 : W.heap[A]? = some (.cells #[.bool b1, .slice ao (ln x.natAbs) c] 48 (0, 0))) (hX1 : W.heap[A + 1]? = some (.cells #[.bool b2, .slice bo (ln y.natAbs) d] 48 (0, 0))) (hX2 : W.heap[A + 1 + 1]? = some (.cells #[.bool false, .slice none 0 0] 48 (0, 0))) :
    Hid (∀ wq, Below W.heap.size W wq → wq.cell? ⟨A, 0, none⟩ = some (.bool b1) ∧ wq.cell? ⟨A, 1, none⟩ = some (.slice ao (ln x.natAbs) c) ∧ wq.cell? ⟨A + 1, 1, none⟩ = some (.slice bo (ln y.natAbs) d)) ∧
    Hid (∀ wq u u', Below W.heap.size W wq → ((wq.setCell ⟨A + 1 + 1, 0, none⟩ u).setCell ⟨A + 1 + 1, 1, none⟩ u').cell? ⟨A, 0, none⟩ = some (.bool b1) ∧ ((wq.setCell ⟨A + 1 + 1, 0, none⟩ u).setCell ⟨A + 1 + 1, 1, none⟩ u').cell? ⟨A, 1, none⟩ = some (.slice ao (ln x.natAbs) c) ∧ ((wq.setCell ⟨A + 1 + 1, 0, none⟩ u).setCell ⟨A + 1 + 1, 1, none⟩ u').cell? ⟨A + 1, 1, none⟩ = some (.slice bo (ln y.natAbs) d)) ∧
    Hid (∀ wq, Below W.heap.size W wq → Calls Tryd.prog 58 #[.slice ao (ln x.natAbs) c, .slice bo (ln y.natAbs) d] wq fun e w' => ∃ v, e = .returned v ∧ (∃ a' n' c', v = .slice a' n' c') ∧ Hid (Sz w' v (x.natAbs - y.natAbs)) ∧ Below W.heap.size W w') ∧
    Hid (∀ w1 v, Below W.heap.size W w1 → Sz w1 v (x.natAbs - y.natAbs) → Calls Tryd.prog 43 #[.bool b1, v] w1 fun e w' => ∃ b' sl, e = .returned (.agg #[.bool b', sl]) ∧ (∃ a' n' c', sl = .slice a' n' c') ∧ BoxF w' (A + 1 + 1) (.bool false) (.slice none 0 0) (.bool b') sl ∧ Below W.heap.size W w' ∧ Hid (∀ wf : World, wf.heap = ((w'.setCell ⟨A + 1 + 1, 0, none⟩ (.bool b')).setCell ⟨A + 1 + 1, 1, none⟩ sl).heap → wf.os = w'.os → wf.tape = w'.tape → wf.output = w'.output → Wh wf (.agg #[.bool b', sl]) z ∧ Below w.heap.size w wf)) := by
  have l0 := (Array.getElem?_eq_some_iff.1 hX0).1
  have l1 := (Array.getElem?_eq_some_iff.1 hX1).1
  have l2 := (Array.getElem?_eq_some_iff.1 hX2).1
  have hlm : ln (x.natAbs - y.natAbs) ≤ ln x.natAbs := ln_mono (by omega)
  have HS : ∀ wq, Below W.heap.size W wq → wq.cell? ⟨A, 0, none⟩ = some (.bool b1) ∧ wq.cell? ⟨A, 1, none⟩ = some (.slice ao (ln x.natAbs) c) ∧ wq.cell? ⟨A + 1, 1, none⟩ = some (.slice bo (ln y.natAbs) d) := fun wq hq => by
    have e0 : wq.heap[A]? = _ := (hq.block _ l0).trans hX0
    have e1 : wq.heap[A + 1]? = _ := (hq.block _ l1).trans hX1
    exact ⟨by rw [cells_at e0 0]; rfl, by rw [cells_at e0 1]; rfl, by rw [cells_at e1 1]; rfl⟩
  refine ⟨HS, fun wq u u' hq => ?_, fun wq hq => ?_, fun w1 v hq hs1 => ?_⟩
  · obtain ⟨q1, q2, q4⟩ := HS wq hq
    exact ⟨by rw [World.cell?_setCell_other _ _ _ _ (by first | (simp; done) | (simp; omega)), World.cell?_setCell_other _ _ _ _ (by first | (simp; done) | (simp; omega))]; exact q1, by rw [World.cell?_setCell_other _ _ _ _ (by first | (simp; done) | (simp; omega)), World.cell?_setCell_other _ _ _ _ (by first | (simp; done) | (simp; omega))]; exact q2, by rw [World.cell?_setCell_other _ _ _ _ (by first | (simp; done) | (simp; omega)), World.cell?_setCell_other _ _ _ _ (by first | (simp; done) | (simp; omega))]; exact q4⟩
  · have k : Below w.heap.size w wq := hB.trans (hq.mono (by have := hB.size; omega))
    refine (sMinus _ _ x.natAbs y.natAbs wq (hs.below k (Nat.le_refl _)) (ht.below k (Nat.le_refl _)) (by omega) (by omega) hge).mono ?_
    rintro e w' ⟨v, rfl, ho, hb⟩
    obtain ⟨a', c', e, _⟩ := ho.sz.open
    exact ⟨v, rfl, ⟨_, _, _, e⟩, ho.sz, hq.trans (hb.mono hq.size)⟩
  · refine (signed_to _ v _ (A + 1 + 1) 48 (.slice none 0 0) false w w1 z hs1 (by omega) hsg ((hq.block _ l2).trans hX2) (hB.trans (hq.mono (by have := hB.size; omega))) (by omega)).mono ?_
    rintro e w' ⟨b', sl, q1, q2, q3, q4, q5⟩
    exact ⟨b', sl, q1, q2, q3, hq.trans (q4.mono hq.size), q5⟩

set_option maxRecDepth 100000 in
set_option maxHeartbeats 2000000 in
theorem hPlus_lt (vx vy : Value) (x y : Int) (w : World) (hx : Wh w vx x) (hy : Wh w vy y) (lx : ln x.natAbs ≤ 200) (ly : ln y.natAbs ≤ 200) (he : decide (x < 0) ≠ decide (y < 0)) (hge : x.natAbs < y.natAbs) :
    Calls Tryd.prog 33 #[vx, vy] w fun e w' => ∃ v', e = .returned v' ∧ Wh w' v' (x + y) ∧ Below w.heap.size w w' := by
  obtain ⟨ao, c, rfl, hs, hl⟩ := hx
  obtain ⟨bo, d, rfl, ht, hm⟩ := hy
  have hsg : sg (decide (y < 0)) (y.natAbs - x.natAbs) = x + y := by
    unfold sg
    by_cases h : y < 0
    · have : ¬ x < 0 := by simpa [h] using he
      simp [h]; omega
    · have : x < 0 := by simpa [h] using he
      simp [h]; omega
  have HCm : Hid (∀ wq, Below w.heap.size w wq → Calls Tryd.prog 57 #[.slice ao (ln x.natAbs) c, .slice bo (ln y.natAbs) d] wq fun e w' => e = .returned (.int .i64 (cmpI (x.natAbs : Int) (y.natAbs : Int))) ∧ Below wq.heap.size wq w') := fun wq hq => sCompare _ _ _ _ wq (hs.below hq (Nat.le_refl _)) (ht.below hq (Nat.le_refl _))
  have hc0 : cmpI (x.natAbs : Int) (y.natAbs : Int) < 0 := by rw [cmpI_lt (by omega)]; decide
  have e1 : (decide (x < 0) == decide (y < 0)) = false := by rw [beq_eq_false_iff_ne]; exact he
  obtain ⟨bx, hbx⟩ : ∃ b, decide (x < 0) = b := ⟨_, rfl⟩
  obtain ⟨by', hby⟩ : ∃ b, decide (y < 0) = b := ⟨_, rfl⟩
  rw [hbx, hby] at e1
  rw [hby] at hsg
  rw [hbx, hby]
  have HL : Hid (∀ W : World, Below w.heap.size w W → W.heap[w.heap.size]? = some (.cells #[.bool by', .slice bo (ln y.natAbs) d] 48 (0, 0)) → W.heap[w.heap.size + 1]? = some (.cells #[.bool bx, .slice ao (ln x.natAbs) c] 48 (0, 0)) → W.heap[w.heap.size + 1 + 1]? = some (.cells #[.bool false, .slice none 0 0] 48 (0, 0)) → _) :=
    fun W hB h0 h1 h2 => last_part y x bo ao d c w.heap.size by' bx w W (x + y) ht hs ly lx (by omega) hsg (Nat.le_refl _) hB h0 h1 h2
  clear hs ht hsg hbx hby he
  generalize ln x.natAbs = n at *
  generalize ln y.natAbs = m at *
  generalize cmpI (x.natAbs : Int) (y.natAbs : Int) = C at *
  obtain ⟨W0, hW0⟩ : ∃ W0, ((w.alloc (.cells #[.bool bx, .slice ao n c] 48)).alloc (.cells #[.bool by', .slice bo m d] 48)).alloc (.cells #[.bool false, .slice none 0 0] 48) = W0 := ⟨_, rfl⟩
  have hsz : W0.heap.size = w.heap.size + 3 := by rw [← hW0]; simp
  have hB0 : Below w.heap.size w W0 := by rw [← hW0]; exact (((Below.refl _ w).alloc (Nat.le_refl _) _).alloc (by simp) _).alloc (by simp; omega) _
  have hX0 : W0.heap[w.heap.size]? = some (.cells #[.bool bx, .slice ao n c] 48 (0, 0)) := by
    rw [← hW0, Below.heap_alloc _ _ _ (by simp; omega), Below.heap_alloc _ _ _ (by simp)]
    exact heap_alloc_at _ _ _ rfl
  have hX1 : W0.heap[w.heap.size + 1]? = some (.cells #[.bool by', .slice bo m d] 48 (0, 0)) := by
    rw [← hW0, Below.heap_alloc _ _ _ (by simp)]
    exact heap_alloc_at _ _ _ (by simp)
  have hX2 : W0.heap[w.heap.size + 1 + 1]? = some (.cells #[.bool false, .slice none 0 0] 48 (0, 0)) := by
    rw [← hW0]
    exact heap_alloc_at _ _ _ (by simp)
  have HS : Hid (∀ wq, Below W0.heap.size W0 wq → wq.cell? ⟨w.heap.size, 0, none⟩ = some (.bool bx) ∧ wq.cell? ⟨w.heap.size, 1, none⟩ = some (.slice ao n c) ∧ wq.cell? ⟨w.heap.size + 1, 0, none⟩ = some (.bool by') ∧ wq.cell? ⟨w.heap.size + 1, 1, none⟩ = some (.slice bo m d) ∧ wq.frozen? ⟨w.heap.size, 0, none⟩ = false ∧ wq.frozen? ⟨w.heap.size, 1, none⟩ = false ∧ wq.frozen? ⟨w.heap.size + 1, 0, none⟩ = false ∧ wq.frozen? ⟨w.heap.size + 1, 1, none⟩ = false) := fun wq hq => by
    have e0 : wq.heap[w.heap.size]? = _ := (hq.block _ (by omega)).trans hX0
    have e1 : wq.heap[w.heap.size + 1]? = _ := (hq.block _ (by omega)).trans hX1
    exact ⟨by rw [cells_at e0 0]; rfl, by rw [cells_at e0 1]; rfl, by rw [cells_at e1 0]; rfl, by rw [cells_at e1 1]; rfl, cells_free e0 0, cells_free e0 1, cells_free e1 0, cells_free e1 1⟩
  have HW1 : Hid (∀ wc, Below W0.heap.size W0 wc → ∃ W1, (((wc.setCell ⟨w.heap.size, 0, none⟩ (.bool by')).setCell ⟨w.heap.size, 1, none⟩ (.slice bo m d)).setCell ⟨w.heap.size + 1, 0, none⟩ (.bool bx)).setCell ⟨w.heap.size + 1, 1, none⟩ (.slice ao n c) = W1 ∧ Below w.heap.size w W1 ∧ W1.heap[w.heap.size]? = some (.cells #[.bool by', .slice bo m d] 48 (0, 0)) ∧ W1.heap[w.heap.size + 1]? = some (.cells #[.bool bx, .slice ao n c] 48 (0, 0)) ∧ W1.heap[w.heap.size + 1 + 1]? = some (.cells #[.bool false, .slice none 0 0] 48 (0, 0))) := fun wc hq => by
    have k : Below w.heap.size w wc := hB0.trans (hq.mono (by omega))
    have e0 : wc.heap[w.heap.size]? = _ := (hq.block _ (by omega)).trans hX0
    have e1 : wc.heap[w.heap.size + 1]? = _ := (hq.block _ (by omega)).trans hX1
    have e2 : wc.heap[w.heap.size + 1 + 1]? = _ := (hq.block _ (by omega)).trans hX2
    refine ⟨_, rfl, (((k.setCell (p := ⟨w.heap.size, 0, none⟩) (Nat.le_refl _) _).setCell (p := ⟨w.heap.size, 1, none⟩) (Nat.le_refl _) _).setCell (p := ⟨w.heap.size + 1, 0, none⟩) (by simp) _).setCell (p := ⟨w.heap.size + 1, 1, none⟩) (by simp) _, ?_, ?_, ?_⟩
    · rw [heap_set_other _ (by omega), heap_set_other _ (by omega), heap_setCell_same _ w.heap.size 1 #[.bool by', .slice ao n c] 48 _ (box_set e0 _)]; rfl
    · rw [heap_setCell_same _ (w.heap.size + 1) 1 #[.bool bx, .slice bo m d] 48 _ (box_set (by rw [heap_set_other _ (by omega), heap_set_other _ (by omega)]; exact e1) _)]; rfl
    · rw [heap_set_other _ (by omega), heap_set_other _ (by omega), heap_set_other _ (by omega), heap_set_other _ (by omega)]; exact e2
  clear hX0 hX1 hX2
  obtain ⟨d0, d1, d2, d3, _⟩ := HS.out W0 (Below.refl _ _)
  go_enter Tryd.func33, Tryd.ntmps33
  go_wp2_with fail
  refine (HCm.out _ hB0).mono ?_
  rintro e wc ⟨rfl, hbc⟩
  obtain ⟨g0, g1, g2, g3, f0, f1, f2, f3⟩ := HS.out wc hbc
  obtain ⟨W1, hW1, y0, y1, y2, y3⟩ := HW1.out wc hbc
  obtain ⟨HS1, HS2, HC1, HC2⟩ := HL.out W1 y0 y1 y2 y3
  clear HL HW1 HS HCm y1 y2 y3
  have hb0 : Below W1.heap.size W1 W1.drew := blw_drewN 1 (Below.refl _ W1)
  go_wp2_with fail
  go_region_held (fun wq => wq.cell? ⟨w.heap.size, 0, none⟩ = some (.bool by') ∧ wq.cell? ⟨w.heap.size, 1, none⟩ = some (.slice bo m d) ∧ wq.cell? ⟨w.heap.size + 1, 1, none⟩ = some (.slice ao n c))
    (first | exact HS1.out _ (by assumption) | exact HS2.out _ _ _ (by assumption) | go_keep)
    (first
      | (go_at_call 58; refine (HC1.out _ hb0).mono ?_; rintro e' w1 ⟨v1, rfl, ⟨a1, n1, c1, rfl⟩, z1, k1⟩)
      | (go_at_call 43; refine (HC2.out _ _ k1 z1.out).mono ?_; rintro e' w2 ⟨b2, sl2, rfl, ⟨a2, n2, c2, rfl⟩, ⟨x0, x1, x2, x3, x4, x5⟩, k2, HX⟩))
  go_wp2
  refine bodyPost_ret (v := .agg #[.bool b2, .slice a2 n2 c2]) (by simp [results, Tryd.results33, go_sem, x4, x5]) rfl ?_
  exact ⟨_, rfl, HX.out _ (by rfl) (by rfl) (by rfl) (by rfl)⟩

theorem hPlus (vx vy : Value) (x y : Int) (w : World) (hx : Wh w vx x) (hy : Wh w vy y) (lx : ln x.natAbs ≤ 200) (ly : ln y.natAbs ≤ 200) :
    Calls Tryd.prog 33 #[vx, vy] w fun e w' => ∃ v', e = .returned v' ∧ Wh w' v' (x + y) ∧ Below w.heap.size w w' := by
  by_cases he : decide (x < 0) = decide (y < 0)
  · exact hPlus_same vx vy x y w hx hy lx ly he
  · by_cases hge : y.natAbs ≤ x.natAbs
    · exact hPlus_ge vx vy x y w hx hy lx ly he hge
    · exact hPlus_lt vx vy x y w hx hy lx ly he (by omega)

/-- whole.compare. -/
theorem cmp_whole_neg {x y : Int} (hx : x < 0) (hy : y < 0) : cmpI (y.natAbs : Int) (x.natAbs : Int) = cmpI x y := by
  rcases Int.lt_trichotomy x y with h | h | h
  · rw [cmpI_lt h, cmpI_lt (by omega)]
  · rw [cmpI_eq h, cmpI_eq (by omega)]
  · rw [cmpI_gt h, cmpI_gt (by omega)]
theorem cmp_whole_pos {x y : Int} (hx : ¬ x < 0) (hy : ¬ y < 0) : cmpI (x.natAbs : Int) (y.natAbs : Int) = cmpI x y := by
  rcases Int.lt_trichotomy x y with h | h | h
  · rw [cmpI_lt h, cmpI_lt (by omega)]
  · rw [cmpI_eq h, cmpI_eq (by omega)]
  · rw [cmpI_gt h, cmpI_gt (by omega)]
set_option maxRecDepth 100000 in
set_option maxHeartbeats 2000000 in
theorem hCompare (vx vy : Value) (x y : Int) (w : World) (hx : Wh w vx x) (hy : Wh w vy y) :
    Calls Tryd.prog 47 #[vx, vy] w fun e w' => e = .returned (.int .i64 (cmpI x y)) ∧ Below w.heap.size w w' := by
  obtain ⟨ao, c, rfl, hs, hl⟩ := hx
  obtain ⟨bo, d, rfl, ht, hm⟩ := hy
  have HB : Hid (∀ p q : Obj, Below w.heap.size w ((w.alloc p).alloc q)) := fun p q => ((Below.refl _ w).alloc (Nat.le_refl _) p).alloc (by simp) q
  have HC : Hid (∀ p q, Calls Tryd.prog 57 #[.slice ao (ln x.natAbs) c, .slice bo (ln y.natAbs) d] ((w.alloc p).alloc q) fun e w' => e = .returned (.int .i64 (cmpI (x.natAbs : Int) (y.natAbs : Int))) ∧ Below w.heap.size w w') := fun p q => by
    refine (sCompare _ _ _ _ _ (hs.below (HB.out p q) (Nat.le_refl _)) (ht.below (HB.out p q) (Nat.le_refl _))).mono ?_
    rintro e w' ⟨rfl, hb⟩
    exact ⟨rfl, (HB.out p q).trans (hb.mono (HB.out p q).size)⟩
  have HC' : Hid (∀ p q, Calls Tryd.prog 57 #[.slice bo (ln y.natAbs) d, .slice ao (ln x.natAbs) c] ((w.alloc p).alloc q) fun e w' => e = .returned (.int .i64 (cmpI (y.natAbs : Int) (x.natAbs : Int))) ∧ Below w.heap.size w w') := fun p q => by
    refine (sCompare _ _ _ _ _ (ht.below (HB.out p q) (Nat.le_refl _)) (hs.below (HB.out p q) (Nat.le_refl _))).mono ?_
    rintro e w' ⟨rfl, hb⟩
    exact ⟨rfl, (HB.out p q).trans (hb.mono (HB.out p q).size)⟩
  clear hs ht
  by_cases hx : x < 0
  · have ex : decide (x < 0) = true := by simpa using hx
    by_cases hy : y < 0
    · have ey : decide (y < 0) = true := by simpa using hy
      have HE : Hid (cmpI (y.natAbs : Int) (x.natAbs : Int) = cmpI x y) := cmp_whole_neg hx hy
      rw [ex, ey]
      clear ex ey hx hy
      go_enter Tryd.func47, Tryd.ntmps47
      go_wp2_with fail
      refine (HC'.out _ _).mono ?_
      rintro e w1 ⟨rfl, b1⟩
      rw [HE.out]
      go_wp2
      go_ret
      exact ⟨rfl, b1⟩
    · have ey : decide (y < 0) = false := by simpa using hy
      have HE : Hid (cmpI x y = -1) := cmpI_lt (by omega)
      rw [ex, ey]
      clear ex ey hx hy
      go_enter Tryd.func47, Tryd.ntmps47
      go_wp2
      go_ret
      exact ⟨by rw [HE.out]; rfl, HB.out _ _⟩
  · have ex : decide (x < 0) = false := by simpa using hx
    by_cases hy : y < 0
    · have ey : decide (y < 0) = true := by simpa using hy
      have HE : Hid (cmpI x y = 1) := cmpI_gt (by omega)
      rw [ex, ey]
      clear ex ey hx hy
      go_enter Tryd.func47, Tryd.ntmps47
      go_wp2
      go_ret
      exact ⟨by rw [HE.out]; rfl, HB.out _ _⟩
    · have ey : decide (y < 0) = false := by simpa using hy
      have HE : Hid (cmpI (x.natAbs : Int) (y.natAbs : Int) = cmpI x y) := cmp_whole_pos hx hy
      rw [ex, ey]
      clear ex ey hx hy
      go_enter Tryd.func47, Tryd.ntmps47
      go_wp2_with fail
      refine (HC.out _ _).mono ?_
      rintro e w1 ⟨rfl, b1⟩
      rw [HE.out]
      go_wp2
      go_ret
      exact ⟨rfl, b1⟩
end Go.Proofs.YtcnlclocnnijgaaDoor
