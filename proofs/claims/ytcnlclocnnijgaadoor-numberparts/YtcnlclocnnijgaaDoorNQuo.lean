/-
  What Quo and Rem do with two whole numbers. Condition: the divisor is not nought.
-/
import Derived.Test.YtcnlclocnnijgaaDoorNOver
import Derived.Test.YtcnlclocnnijgaaDoorNRQuo
import Derived.Test.YtcnlclocnnijgaaDoorNReck2
namespace Go.Proofs.YtcnlclocnnijgaaDoor
open Go.RowKit
set_option linter.unusedVariables false

set_option maxRecDepth 100000 in
set_option maxHeartbeats 2000000 in
theorem does_quo (x y : Int) (hy0 : y ≠ 0) : Does 41 x y (quoI x y) := fun w vx vy hx hy lx ly => by
  obtain ⟨ao, c, rfl, hs, hl⟩ := hx
  obtain ⟨bo, d, rfl, ht, hm⟩ := hy
  have hsg : sg (decide (x < 0) != decide (y < 0)) (x.natAbs / y.natAbs) = quoI x y := rfl
  have hlm : ln (x.natAbs / y.natAbs) ≤ 500 := Nat.le_trans (ln_mono (Nat.div_le_self _ _)) hl
  generalize hn : ln x.natAbs = n at *
  generalize hm0 : ln y.natAbs = m at *
  generalize decide (x < 0) = bx at *
  generalize decide (y < 0) = by' at *
  obtain ⟨W0, hW0⟩ : ∃ W0, ((w.alloc (.cells #[.bool bx, .slice ao n c] 48)).alloc (.cells #[.bool by', .slice bo m d] 48)).alloc (.cells #[.bool false, .slice none 0 0] 48) = W0 := ⟨_, rfl⟩
  have hsz : W0.heap.size = w.heap.size + 3 := by rw [← hW0]; simp
  have hB0 : Below w.heap.size w W0 := by rw [← hW0]; exact (((Below.refl _ w).alloc (Nat.le_refl _) _).alloc (by simp) _).alloc (by first | (simp; done) | (simp; omega)) _
  have hX0 : W0.heap[w.heap.size]? = some (.cells #[.bool bx, .slice ao n c] 48 (0, 0)) := by
    rw [← hW0, Below.heap_alloc _ _ _ (by first | (simp; done) | (simp; omega)), Below.heap_alloc _ _ _ (by simp)]
    exact heap_alloc_at _ _ _ rfl
  have hX1 : W0.heap[w.heap.size + 1]? = some (.cells #[.bool by', .slice bo m d] 48 (0, 0)) := by
    rw [← hW0, Below.heap_alloc _ _ _ (by simp)]
    exact heap_alloc_at _ _ _ (by simp)
  have hX2 : W0.heap[w.heap.size + 1 + 1]? = some (.cells #[.bool false, .slice none 0 0] 48 (0, 0)) := by
    rw [← hW0]
    exact heap_alloc_at _ _ _ (by simp)
  have HS : Hid (∀ wq, Below W0.heap.size W0 wq → wq.cell? ⟨w.heap.size, 0, none⟩ = some (.bool bx) ∧ wq.cell? ⟨w.heap.size, 1, none⟩ = some (.slice ao n c) ∧ wq.cell? ⟨w.heap.size + 1, 0, none⟩ = some (.bool by') ∧ wq.cell? ⟨w.heap.size + 1, 1, none⟩ = some (.slice bo m d)) := fun wq hq => by
    have e0 : wq.heap[w.heap.size]? = _ := (hq.block _ (by omega)).trans hX0
    have e1 : wq.heap[w.heap.size + 1]? = _ := (hq.block _ (by omega)).trans hX1
    exact ⟨by rw [cells_at e0 0]; rfl, by rw [cells_at e0 1]; rfl, by rw [cells_at e1 0]; rfl, by rw [cells_at e1 1]; rfl⟩
  have HC1 : Hid (Calls Tryd.prog 42 #[.slice ao n c, .slice bo m d] W0 fun e w' => ∃ qa qn qc ra rn rc, e = .returned (.tuple #[.slice qa qn qc, .slice ra rn rc]) ∧ Hid (Sz w' (.slice qa qn qc) (x.natAbs / y.natAbs)) ∧ Below W0.heap.size W0 w') := by
    refine (over _ _ x.natAbs y.natAbs W0 (hs.below hB0 (Nat.le_refl _)) (ht.below hB0 (Nat.le_refl _)) (by omega) (by omega) (by omega)).mono ?_
    rintro e w' ⟨q, r, rfl, hq, hr, hb⟩
    obtain ⟨qa, qc, rfl, _⟩ := hq.sz.open
    obtain ⟨ra, rc, rfl, _⟩ := hr.sz.open
    exact ⟨_, _, _, _, _, _, rfl, hq.sz, hb⟩
  have HC2 : Hid (∀ w1 v, Below W0.heap.size W0 w1 → Sz w1 v (x.natAbs / y.natAbs) → Calls Tryd.prog 43 #[.bool (bx != by'), v] w1 fun e w' => ∃ b' sl, e = .returned (.agg #[.bool b', sl]) ∧ (∃ a' n' c', sl = .slice a' n' c') ∧ BoxF w' (w.heap.size + 1 + 1) (.bool false) (.slice none 0 0) (.bool b') sl ∧ Below W0.heap.size W0 w' ∧ Hid (∀ wf : World, wf.heap = ((w'.setCell ⟨w.heap.size + 1 + 1, 0, none⟩ (.bool b')).setCell ⟨w.heap.size + 1 + 1, 1, none⟩ sl).heap → wf.os = w'.os → wf.tape = w'.tape → wf.output = w'.output → Wh wf (.agg #[.bool b', sl]) (quoI x y) ∧ Below w.heap.size w wf)) := fun w1 v hq hs1 => by
    refine (signed_to _ v _ (w.heap.size + 1 + 1) 48 (.slice none 0 0) false w w1 (quoI x y) hs1 hlm hsg ((hq.block _ (by omega)).trans hX2) (hB0.trans (hq.mono (by omega))) (by omega)).mono ?_
    rintro e w' ⟨b', sl, q1, q2, q3, q4, q5⟩
    exact ⟨b', sl, q1, q2, q3, hq.trans (q4.mono hq.size), q5⟩
  clear hs ht hsg hlm hX0 hX1 hX2 hB0 hn hm0
  obtain ⟨d0, d1, d2, d3⟩ := HS.out W0 (Below.refl _ _)
  go_enter Tryd.func41, Tryd.ntmps41
  go_wp2_with fail
  refine HC1.out.mono ?_
  rintro e w1 ⟨qa, qn, qc, ra, rn, rc, rfl, z1, k1⟩
  obtain ⟨f0, f1, f2, f3⟩ := HS.out w1 k1
  have C2 := HC2.out _ _ k1 z1.out
  clear HC1 d0 d1 d2 d3
  go_wp2_with fail
  refine C2.mono ?_
  rintro e w2 ⟨b2, sl2, rfl, ⟨a2, n2, c2, rfl⟩, ⟨x0, x1, x2, x3, x4, x5⟩, k2, HX⟩
  clear HC2 C2
  go_wp2
  refine bodyPost_ret (v := .agg #[.bool b2, .slice a2 n2 c2]) (by simp [results, Tryd.results41, go_sem, x4, x5]) rfl ?_
  exact ⟨_, rfl, HX.out _ (by rfl) (by rfl) (by rfl) (by rfl)⟩

set_option maxRecDepth 100000 in
set_option maxHeartbeats 2000000 in
theorem does_rem (x y : Int) (hy0 : y ≠ 0) : Does 45 x y (remI x y) := fun w vx vy hx hy lx ly => by
  obtain ⟨ao, c, rfl, hs, hl⟩ := hx
  obtain ⟨bo, d, rfl, ht, hm⟩ := hy
  have hsg : sg (decide (x < 0)) (x.natAbs % y.natAbs) = remI x y := rfl
  have hlm : ln (x.natAbs % y.natAbs) ≤ 500 := Nat.le_trans (ln_mono (Nat.mod_le _ _)) hl
  generalize hn : ln x.natAbs = n at *
  generalize hm0 : ln y.natAbs = m at *
  generalize decide (x < 0) = bx at *
  generalize decide (y < 0) = by' at *
  obtain ⟨W0, hW0⟩ : ∃ W0, ((w.alloc (.cells #[.bool bx, .slice ao n c] 48)).alloc (.cells #[.bool by', .slice bo m d] 48)).alloc (.cells #[.bool false, .slice none 0 0] 48) = W0 := ⟨_, rfl⟩
  have hsz : W0.heap.size = w.heap.size + 3 := by rw [← hW0]; simp
  have hB0 : Below w.heap.size w W0 := by rw [← hW0]; exact (((Below.refl _ w).alloc (Nat.le_refl _) _).alloc (by simp) _).alloc (by first | (simp; done) | (simp; omega)) _
  have hX0 : W0.heap[w.heap.size]? = some (.cells #[.bool bx, .slice ao n c] 48 (0, 0)) := by
    rw [← hW0, Below.heap_alloc _ _ _ (by first | (simp; done) | (simp; omega)), Below.heap_alloc _ _ _ (by simp)]
    exact heap_alloc_at _ _ _ rfl
  have hX1 : W0.heap[w.heap.size + 1]? = some (.cells #[.bool by', .slice bo m d] 48 (0, 0)) := by
    rw [← hW0, Below.heap_alloc _ _ _ (by simp)]
    exact heap_alloc_at _ _ _ (by simp)
  have hX2 : W0.heap[w.heap.size + 1 + 1]? = some (.cells #[.bool false, .slice none 0 0] 48 (0, 0)) := by
    rw [← hW0]
    exact heap_alloc_at _ _ _ (by simp)
  have HS : Hid (∀ wq, Below W0.heap.size W0 wq → wq.cell? ⟨w.heap.size, 0, none⟩ = some (.bool bx) ∧ wq.cell? ⟨w.heap.size, 1, none⟩ = some (.slice ao n c) ∧ wq.cell? ⟨w.heap.size + 1, 0, none⟩ = some (.bool by') ∧ wq.cell? ⟨w.heap.size + 1, 1, none⟩ = some (.slice bo m d)) := fun wq hq => by
    have e0 : wq.heap[w.heap.size]? = _ := (hq.block _ (by omega)).trans hX0
    have e1 : wq.heap[w.heap.size + 1]? = _ := (hq.block _ (by omega)).trans hX1
    exact ⟨by rw [cells_at e0 0]; rfl, by rw [cells_at e0 1]; rfl, by rw [cells_at e1 0]; rfl, by rw [cells_at e1 1]; rfl⟩
  have HC1 : Hid (Calls Tryd.prog 42 #[.slice ao n c, .slice bo m d] W0 fun e w' => ∃ qa qn qc ra rn rc, e = .returned (.tuple #[.slice qa qn qc, .slice ra rn rc]) ∧ Hid (Sz w' (.slice ra rn rc) (x.natAbs % y.natAbs)) ∧ Below W0.heap.size W0 w') := by
    refine (over _ _ x.natAbs y.natAbs W0 (hs.below hB0 (Nat.le_refl _)) (ht.below hB0 (Nat.le_refl _)) (by omega) (by omega) (by omega)).mono ?_
    rintro e w' ⟨q, r, rfl, hq, hr, hb⟩
    obtain ⟨qa, qc, rfl, _⟩ := hq.sz.open
    obtain ⟨ra, rc, rfl, _⟩ := hr.sz.open
    exact ⟨_, _, _, _, _, _, rfl, hr.sz, hb⟩
  have HC2 : Hid (∀ w1 v, Below W0.heap.size W0 w1 → Sz w1 v (x.natAbs % y.natAbs) → Calls Tryd.prog 43 #[.bool (bx), v] w1 fun e w' => ∃ b' sl, e = .returned (.agg #[.bool b', sl]) ∧ (∃ a' n' c', sl = .slice a' n' c') ∧ BoxF w' (w.heap.size + 1 + 1) (.bool false) (.slice none 0 0) (.bool b') sl ∧ Below W0.heap.size W0 w' ∧ Hid (∀ wf : World, wf.heap = ((w'.setCell ⟨w.heap.size + 1 + 1, 0, none⟩ (.bool b')).setCell ⟨w.heap.size + 1 + 1, 1, none⟩ sl).heap → wf.os = w'.os → wf.tape = w'.tape → wf.output = w'.output → Wh wf (.agg #[.bool b', sl]) (remI x y) ∧ Below w.heap.size w wf)) := fun w1 v hq hs1 => by
    refine (signed_to _ v _ (w.heap.size + 1 + 1) 48 (.slice none 0 0) false w w1 (remI x y) hs1 hlm hsg ((hq.block _ (by omega)).trans hX2) (hB0.trans (hq.mono (by omega))) (by omega)).mono ?_
    rintro e w' ⟨b', sl, q1, q2, q3, q4, q5⟩
    exact ⟨b', sl, q1, q2, q3, hq.trans (q4.mono hq.size), q5⟩
  clear hs ht hsg hlm hX0 hX1 hX2 hB0 hn hm0
  obtain ⟨d0, d1, d2, d3⟩ := HS.out W0 (Below.refl _ _)
  go_enter Tryd.func45, Tryd.ntmps45
  go_wp2_with fail
  refine HC1.out.mono ?_
  rintro e w1 ⟨qa, qn, qc, ra, rn, rc, rfl, z1, k1⟩
  obtain ⟨f0, f1, f2, f3⟩ := HS.out w1 k1
  have C2 := HC2.out _ _ k1 z1.out
  clear HC1 d0 d1 d2 d3
  go_wp2_with fail
  refine C2.mono ?_
  rintro e w2 ⟨b2, sl2, rfl, ⟨a2, n2, c2, rfl⟩, ⟨x0, x1, x2, x3, x4, x5⟩, k2, HX⟩
  clear HC2 C2
  go_wp2
  refine bodyPost_ret (v := .agg #[.bool b2, .slice a2 n2 c2]) (by simp [results, Tryd.results45, go_sem, x4, x5]) rfl ?_
  exact ⟨_, rfl, HX.out _ (by rfl) (by rfl) (by rfl) (by rfl)⟩
end Go.Proofs.YtcnlclocnnijgaaDoor
