/-
  The document's signed numbers: contract of its sum. Conditions: fewer than ten thousand digits each.
-/
import Derived.Test.YtcnlclocnnijgaaDoorNRPlus
import Derived.Test.YtcnlclocnnijgaaDoorNReck2
namespace Go.Proofs.YtcnlclocnnijgaaDoor
open Go.RowKit
set_option linter.unusedVariables false

/-- The document's number: n digits of u, and whether it is below nought. -/
def Bg (w : World) (v : Value) (b : Bool) (n u : Nat) : Prop := ∃ ao c, v = .agg #[.slice ao n c, .bool b] ∧ Dig w (.slice ao n c) n u ∧ 1 ≤ n
theorem Bg.below {w w' : World} {v : Value} {b : Bool} {n u B : Nat} (h : Bg w v b n u) (hb : Below B w w') (hB : w.heap.size ≤ B) : Bg w' v b n u := by
  obtain ⟨ao, c, e, h1, h2⟩ := h
  exact ⟨ao, c, e, h1.below hb hB, h2⟩
theorem storedD {w w' : World} {X n u B : Nat} {v b : Value} (ho : OwN .i64 3 w' B v n (fun i => (dd u i : Int))) (hXB : X < B) (hu : u < 10 ^ n) (hn : n ≤ 1000000) (hb : Below w.heap.size w w') (hwX : w.heap.size ≤ X) :
    Hid (∀ wf : World, wf.heap = ((w'.setCell ⟨X, 0, none⟩ v).setCell ⟨X, 1, none⟩ b).heap → wf.os = w'.os → wf.tape = w'.tape → wf.output = w'.output → Dig wf v n u ∧ Below w.heap.size w wf) := fun wf e1 e2 e3 e4 => by
  have q2 : Below w.heap.size w ((w'.setCell ⟨X, 0, none⟩ v).setCell ⟨X, 1, none⟩ b) := (hb.setCell (p := ⟨X, 0, none⟩) hwX _).setCell (p := ⟨X, 1, none⟩) hwX _
  have hne : v.ownBlock ≠ some X := fun e => by have := (World.ownsRow.lt ho _ e).1; omega
  have q1 : OwN .i64 3 wf B v n (fun i => (dd u i : Int)) := row_heap (row_set (row_set ho hne 0 v) hne 1 b) e1
  exact ⟨⟨q1.rd, hu, hn⟩, ⟨e2.trans q2.os, e3.trans q2.tape, e4.trans q2.output, by rw [e1]; exact q2.size, fun k hk => by rw [e1]; exact q2.block k hk⟩⟩
theorem sg_same (b : Bool) (x y : Nat) : sg b x + sg b y = sg b (x + y) := by
  unfold sg
  cases b
  · simp
  · simp; omega
theorem sg_less {b : Bool} {x y : Nat} (h : y ≤ x) : sg b x + sg (!b) y = sg b (x - y) := by
  unfold sg
  cases b
  · simp; omega
  · simp; omega
theorem sg_more {b : Bool} {x y : Nat} (h : x ≤ y) : sg b x + sg (!b) y = sg (!b) (y - x) := by
  unfold sg
  cases b
  · simp; omega
  · simp; omega

set_option maxRecDepth 100000 in
set_option maxHeartbeats 2000000 in
theorem rBSum (vx vy : Value) (bx by' : Bool) (n m x y : Nat) (w : World) (hx : Bg w vx bx n x) (hy : Bg w vy by' m y) (hn : n ≤ 5000) (hm : m ≤ 5000) :
    Calls Tryd.prog 34 #[vx, vy] w fun e w' => ∃ v' b' n' u', e = .returned v' ∧ Bg w' v' b' n' u' ∧ sg b' u' = sg bx x + sg by' y ∧ n' ≤ 6000 ∧ Below w.heap.size w w' := by
  obtain ⟨ao, c, rfl, hs, hl⟩ := hx
  obtain ⟨bo, d, rfl, ht, hm1⟩ := hy
  obtain ⟨W0, hW0⟩ : ∃ W0, ((w.alloc (.cells #[.slice ao n c, .bool bx] 51)).alloc (.cells #[.slice bo m d, .bool by'] 51)).alloc (.cells #[.slice none 0 0, .bool false] 51) = W0 := ⟨_, rfl⟩
  have hsz : W0.heap.size = w.heap.size + 3 := by rw [← hW0]; simp
  have hB0 : Below w.heap.size w W0 := by rw [← hW0]; exact (((Below.refl _ w).alloc (Nat.le_refl _) _).alloc (by simp) _).alloc (by first | (simp; done) | (simp; omega)) _
  have hX0 : W0.heap[w.heap.size]? = some (.cells #[.slice ao n c, .bool bx] 51 (0, 0)) := by
    rw [← hW0, Below.heap_alloc _ _ _ (by first | (simp; done) | (simp; omega)), Below.heap_alloc _ _ _ (by simp)]
    exact heap_alloc_at _ _ _ rfl
  have hX1 : W0.heap[w.heap.size + 1]? = some (.cells #[.slice bo m d, .bool by'] 51 (0, 0)) := by
    rw [← hW0, Below.heap_alloc _ _ _ (by simp)]
    exact heap_alloc_at _ _ _ (by simp)
  have hX2 : W0.heap[w.heap.size + 1 + 1]? = some (.cells #[.slice none 0 0, .bool false] 51 (0, 0)) := by
    rw [← hW0]
    exact heap_alloc_at _ _ _ (by simp)
  have hb0 : Below W0.heap.size W0 W0.drew := blw_drewN 1 (Below.refl _ W0)
  have HS : Hid (∀ wq, Below W0.heap.size W0 wq → wq.cell? ⟨w.heap.size, 0, none⟩ = some (.slice ao n c) ∧ wq.cell? ⟨w.heap.size, 1, none⟩ = some (.bool bx) ∧ wq.cell? ⟨w.heap.size + 1, 0, none⟩ = some (.slice bo m d) ∧ wq.cell? ⟨w.heap.size + 1, 1, none⟩ = some (.bool by')) := fun wq hq => by
    have e0 : wq.heap[w.heap.size]? = _ := (hq.block _ (by omega)).trans hX0
    have e1 : wq.heap[w.heap.size + 1]? = _ := (hq.block _ (by omega)).trans hX1
    exact ⟨by rw [cells_at e0 0]; rfl, by rw [cells_at e0 1]; rfl, by rw [cells_at e1 0]; rfl, by rw [cells_at e1 1]; rfl⟩
  have HS2 : Hid (∀ wq u u', Below W0.heap.size W0 wq → ((wq.setCell ⟨w.heap.size + 1 + 1, 0, none⟩ u).setCell ⟨w.heap.size + 1 + 1, 1, none⟩ u').cell? ⟨w.heap.size, 0, none⟩ = some (.slice ao n c) ∧ ((wq.setCell ⟨w.heap.size + 1 + 1, 0, none⟩ u).setCell ⟨w.heap.size + 1 + 1, 1, none⟩ u').cell? ⟨w.heap.size, 1, none⟩ = some (.bool bx) ∧ ((wq.setCell ⟨w.heap.size + 1 + 1, 0, none⟩ u).setCell ⟨w.heap.size + 1 + 1, 1, none⟩ u').cell? ⟨w.heap.size + 1, 0, none⟩ = some (.slice bo m d) ∧ ((wq.setCell ⟨w.heap.size + 1 + 1, 0, none⟩ u).setCell ⟨w.heap.size + 1 + 1, 1, none⟩ u').cell? ⟨w.heap.size + 1, 1, none⟩ = some (.bool by')) := fun wq u u' hq => by
    obtain ⟨q1, q2, q3, q4⟩ := HS.out wq hq
    exact ⟨by rw [World.cell?_setCell_other _ _ _ _ (by first | (simp; done) | (simp; omega)), World.cell?_setCell_other _ _ _ _ (by first | (simp; done) | (simp; omega))]; exact q1, by rw [World.cell?_setCell_other _ _ _ _ (by first | (simp; done) | (simp; omega)), World.cell?_setCell_other _ _ _ _ (by first | (simp; done) | (simp; omega))]; exact q2, by rw [World.cell?_setCell_other _ _ _ _ (by simp), World.cell?_setCell_other _ _ _ _ (by simp)]; exact q3, by rw [World.cell?_setCell_other _ _ _ _ (by simp), World.cell?_setCell_other _ _ _ _ (by simp)]; exact q4⟩
  have D : Hid (∀ wq, Below W0.heap.size W0 wq → Dig wq (.slice ao n c) n x ∧ Dig wq (.slice bo m d) m y) := fun wq hq => by
    have k : Below w.heap.size w wq := hB0.trans (hq.mono (by omega))
    exact ⟨hs.below k (Nat.le_refl _), ht.below k (Nat.le_refl _)⟩
  have fin : ∀ (wq w' : World) (v : Value) (b : Bool) (n' u' : Nat), Below W0.heap.size W0 wq → OwN .i64 3 w' wq.heap.size v n' (fun i => (dd u' i : Int)) → Below wq.heap.size wq w' → u' < 10 ^ n' → 1 ≤ n' → n' ≤ 6000 → sg b u' = sg bx x + sg by' y →
      (∃ a' n' c', v = .slice a' n' c') ∧ BoxF w' (w.heap.size + 1 + 1) (.slice none 0 0) (.bool false) v (.bool b) ∧ Below W0.heap.size W0 w' ∧ Hid (∀ wf : World, wf.heap = ((w'.setCell ⟨w.heap.size + 1 + 1, 0, none⟩ v).setCell ⟨w.heap.size + 1 + 1, 1, none⟩ (.bool b)).heap → wf.os = w'.os → wf.tape = w'.tape → wf.output = w'.output → ∃ v' b' n' u', Ending.returned (.agg #[v, .bool b]) = .returned v' ∧ Bg wf v' b' n' u' ∧ sg b' u' = sg bx x + sg by' y ∧ n' ≤ 6000 ∧ Below w.heap.size w wf) := fun wq w' v b n' u' hq ho hb hu h1 h2 hsg => by
    have k : Below w.heap.size w wq := hB0.trans (hq.mono (by omega))
    have kk : Below W0.heap.size W0 w' := hq.trans (hb.mono hq.size)
    have hX : w'.heap[w.heap.size + 1 + 1]? = some (.cells #[.slice none 0 0, .bool false] 51 (0, 0)) := (kk.block _ (by omega)).trans hX2
    have hsize := hq.size
    refine ⟨?_, boxF hX _ _, kk, fun wf e1 e2 e3 e4 => ?_⟩
    · rcases ho.open with ⟨e, _⟩ | ⟨g, c, e, _⟩ <;> exact ⟨_, _, _, e⟩
    · obtain ⟨q1, q2⟩ := (storedD ho (X := w.heap.size + 1 + 1) (b := .bool b) (by omega) hu (by omega) (k.trans (hb.mono k.size)) (by omega)).out wf e1 e2 e3 e4
      rcases ho.open with ⟨rfl, e⟩ | ⟨g, c, rfl, _⟩
      · omega
      · exact ⟨_, b, n', u', rfl, ⟨_, _, rfl, q1, h1⟩, hsg, h2, q2⟩
  have hx' := hs.2.1
  have hy' := ht.2.1
  have pl := Nat.pow_le_pow_right (n := 10) (by decide) (Nat.le_max_left n m)
  have pr := Nat.pow_le_pow_right (n := 10) (by decide) (Nat.le_max_right n m)
  by_cases hbb : bx = by'
  · subst hbb
    have HC : Hid (∀ wq, Below W0.heap.size W0 wq → Calls Tryd.prog 59 #[.slice ao n c, .slice bo m d] wq fun e w' => ∃ v, e = .returned v ∧ (∃ a' n' c', v = .slice a' n' c') ∧ BoxF w' (w.heap.size + 1 + 1) (.slice none 0 0) (.bool false) v (.bool bx) ∧ Below W0.heap.size W0 w' ∧ Hid (∀ wf : World, wf.heap = ((w'.setCell ⟨w.heap.size + 1 + 1, 0, none⟩ v).setCell ⟨w.heap.size + 1 + 1, 1, none⟩ (.bool bx)).heap → wf.os = w'.os → wf.tape = w'.tape → wf.output = w'.output → ∃ v' b' n' u', Ending.returned (.agg #[v, .bool bx]) = .returned v' ∧ Bg wf v' b' n' u' ∧ sg b' u' = sg bx x + sg bx y ∧ n' ≤ 6000 ∧ Below w.heap.size w wf)) := fun wq hq => by
      refine (rPlus _ _ n m x y wq (D.out wq hq).1 (D.out wq hq).2 (by omega) (by omega)).mono ?_
      rintro e w' ⟨v, rfl, ho, hb⟩
      exact ⟨v, rfl, fin wq w' v bx _ _ hq ho hb (by rw [Nat.pow_succ]; omega) (by omega) (by omega) (sg_same _ _ _).symm⟩
    clear hs ht hX0 hX1 hX2 hB0 D fin hx' hy' pl pr
    obtain ⟨g1, g2, g3, g4⟩ := HS.out W0 (Below.refl _ _)
    go_enter Tryd.func34, Tryd.ntmps34
    go_wp2_with fail
    go_region_held (fun wq => wq.cell? ⟨w.heap.size, 0, none⟩ = some (.slice ao n c) ∧ wq.cell? ⟨w.heap.size, 1, none⟩ = some (.bool bx) ∧ wq.cell? ⟨w.heap.size + 1, 0, none⟩ = some (.slice bo m d) ∧ wq.cell? ⟨w.heap.size + 1, 1, none⟩ = some (.bool bx))
      (first | exact HS.out _ (by assumption) | exact HS2.out _ _ _ (by assumption) | go_keep)
      (first | (go_at_call 59; refine (HC.out _ hb0).mono ?_; rintro e' w2 ⟨v2, rfl, ⟨a2, n2, c2, rfl⟩, ⟨x0, x1, x2, x3, x4, x5⟩, k2, HX⟩))
    go_wp2
    refine bodyPost_ret (v := .agg #[.slice a2 n2 c2, .bool bx]) (by simp [results, Tryd.results34, go_sem, x4, x5]) rfl ?_
    exact HX.out _ (by rfl) (by rfl) (by rfl) (by rfl)
  · obtain rfl : by' = !bx := by cases bx <;> cases by' <;> simp at hbb ⊢
    have HZ : Hid (∀ wq, Below W0.heap.size W0 wq → Calls Tryd.prog 48 #[.slice ao n c, .slice bo m d] wq fun e w' => e = .returned (.int .i64 (cmpI x y)) ∧ w' = wq) := fun wq hq => rSize _ _ n m x y wq (D.out wq hq).1 (D.out wq hq).2
    have hbe : (bx == !bx) = false := by cases bx <;> rfl
    by_cases hle : y ≤ x
    · have HC : Hid (∀ wq, Below W0.heap.size W0 wq → Calls Tryd.prog 60 #[.slice ao n c, .slice bo m d] wq fun e w' => ∃ v, e = .returned v ∧ (∃ a' n' c', v = .slice a' n' c') ∧ BoxF w' (w.heap.size + 1 + 1) (.slice none 0 0) (.bool false) v (.bool bx) ∧ Below W0.heap.size W0 w' ∧ Hid (∀ wf : World, wf.heap = ((w'.setCell ⟨w.heap.size + 1 + 1, 0, none⟩ v).setCell ⟨w.heap.size + 1 + 1, 1, none⟩ (.bool bx)).heap → wf.os = w'.os → wf.tape = w'.tape → wf.output = w'.output → ∃ v' b' n' u', Ending.returned (.agg #[v, .bool bx]) = .returned v' ∧ Bg wf v' b' n' u' ∧ sg b' u' = sg bx x + sg (!bx) y ∧ n' ≤ 6000 ∧ Below w.heap.size w wf)) := fun wq hq => by
        refine (rMinus _ _ n m x y wq (D.out wq hq).1 (D.out wq hq).2 (by omega) (by omega) hle).mono ?_
        rintro e w' ⟨v, rfl, ho, hb⟩
        exact ⟨v, rfl, fin wq w' v bx _ _ hq ho hb (by omega) (by omega) (by omega) (sg_less hle).symm⟩
      have hc0 : (0 : Int) ≤ cmpI x y := by
        rcases Nat.lt_or_ge y x with h | h
        · rw [cmpI_gt (by omega)]; decide
        · rw [cmpI_eq (by omega)]; decide
      generalize cmpI x y = q at *
      clear hs ht hX0 hX1 hX2 hB0 D fin hx' hy' pl pr hle hbb
      obtain ⟨g1, g2, g3, g4⟩ := HS.out W0 (Below.refl _ _)
      go_enter Tryd.func34, Tryd.ntmps34
      go_wp2_with fail
      refine (HZ.out _ (Below.refl _ W0)).mono ?_
      rintro e wz ⟨rfl, hw⟩
      obtain rfl : W0 = wz := hw.symm
      clear hw
      go_wp2_with fail
      go_region_held (fun wq => wq.cell? ⟨w.heap.size, 0, none⟩ = some (.slice ao n c) ∧ wq.cell? ⟨w.heap.size, 1, none⟩ = some (.bool bx) ∧ wq.cell? ⟨w.heap.size + 1, 0, none⟩ = some (.slice bo m d) ∧ wq.cell? ⟨w.heap.size + 1, 1, none⟩ = some (.bool (!bx)))
        (first | exact HS.out _ (by assumption) | exact HS2.out _ _ _ (by assumption) | go_keep)
        (first | (go_at_call 60; refine (HC.out _ hb0).mono ?_; rintro e' w2 ⟨v2, rfl, ⟨a2, n2, c2, rfl⟩, ⟨x0, x1, x2, x3, x4, x5⟩, k2, HX⟩))
      go_wp2
      refine bodyPost_ret (v := .agg #[.slice a2 n2 c2, .bool bx]) (by simp [results, Tryd.results34, go_sem, x4, x5]) rfl ?_
      exact HX.out _ (by rfl) (by rfl) (by rfl) (by rfl)
    · have HC : Hid (∀ wq, Below W0.heap.size W0 wq → Calls Tryd.prog 60 #[.slice bo m d, .slice ao n c] wq fun e w' => ∃ v, e = .returned v ∧ (∃ a' n' c', v = .slice a' n' c') ∧ BoxF w' (w.heap.size + 1 + 1) (.slice none 0 0) (.bool false) v (.bool (!bx)) ∧ Below W0.heap.size W0 w' ∧ Hid (∀ wf : World, wf.heap = ((w'.setCell ⟨w.heap.size + 1 + 1, 0, none⟩ v).setCell ⟨w.heap.size + 1 + 1, 1, none⟩ (.bool (!bx))).heap → wf.os = w'.os → wf.tape = w'.tape → wf.output = w'.output → ∃ v' b' n' u', Ending.returned (.agg #[v, .bool (!bx)]) = .returned v' ∧ Bg wf v' b' n' u' ∧ sg b' u' = sg bx x + sg (!bx) y ∧ n' ≤ 6000 ∧ Below w.heap.size w wf)) := fun wq hq => by
        refine (rMinus _ _ m n y x wq (D.out wq hq).2 (D.out wq hq).1 (by omega) (by omega) (by omega)).mono ?_
        rintro e w' ⟨v, rfl, ho, hb⟩
        rw [Nat.max_comm m n] at ho
        exact ⟨v, rfl, fin wq w' v (!bx) _ _ hq ho hb (by omega) (by omega) (by omega) (sg_more (by omega)).symm⟩
      have hc0 : ¬ (0 : Int) ≤ cmpI x y := by
        rw [cmpI_lt (by omega)]; decide
      generalize cmpI x y = q at *
      clear hs ht hX0 hX1 hX2 hB0 D fin hx' hy' pl pr hle hbb
      obtain ⟨g1, g2, g3, g4⟩ := HS.out W0 (Below.refl _ _)
      go_enter Tryd.func34, Tryd.ntmps34
      go_wp2_with fail
      refine (HZ.out _ (Below.refl _ W0)).mono ?_
      rintro e wz ⟨rfl, hw⟩
      obtain rfl : W0 = wz := hw.symm
      clear hw
      go_wp2_with fail
      go_region_held (fun wq => wq.cell? ⟨w.heap.size, 0, none⟩ = some (.slice ao n c) ∧ wq.cell? ⟨w.heap.size, 1, none⟩ = some (.bool bx) ∧ wq.cell? ⟨w.heap.size + 1, 0, none⟩ = some (.slice bo m d) ∧ wq.cell? ⟨w.heap.size + 1, 1, none⟩ = some (.bool (!bx)))
        (first | exact HS.out _ (by assumption) | exact HS2.out _ _ _ (by assumption) | go_keep)
        (first | (go_at_call 60; refine (HC.out _ hb0).mono ?_; rintro e' w2 ⟨v2, rfl, ⟨a2, n2, c2, rfl⟩, ⟨x0, x1, x2, x3, x4, x5⟩, k2, HX⟩))
      go_wp2
      refine bodyPost_ret (v := .agg #[.slice a2 n2 c2, .bool (!bx)]) (by simp [results, Tryd.results34, go_sem, x4, x5]) rfl ?_
      exact HX.out _ (by rfl) (by rfl) (by rfl) (by rfl)
end Go.Proofs.YtcnlclocnnijgaaDoor
