/-
  The program's sums, differences and products, and how two numbers compare: contracts at every two texts. Condition: the library's table of powers of ten is as it starts.
-/
import Derived.Test.YtcnlclocnnijgaaDoorNWhole4
namespace Go.Proofs.YtcnlclocnnijgaaDoor
open Go.RowKit
set_option linter.unusedVariables false

/-- What is answered for a number: its text, or that it is too big. -/
def resT (z : Int) : ByteArray := if Lib.nDigits z.natAbs ≤ 200 then txt z else ⟨#[]⟩
def resE (z : Int) : Int := if Lib.nDigits z.natAbs ≤ 200 then 0 else 91
theorem can_txt {z : Int} (h : ¬ Lib.nDigits z.natAbs ≤ 200) : ¬ ∃ v, IsNum (txt z) v := by
  rintro ⟨v, h1, h2⟩
  rw [txt_inj h1] at h
  exact h h2
/-- What a reckoning does with two whole numbers. -/
def Does (K : Nat) (x y z : Int) : Prop := ∀ wq vx vy, Wh wq vx x → Wh wq vy y → ln x.natAbs ≤ 23 → ln y.natAbs ≤ 23 → Calls Tryd.prog K #[vx, vy] wq fun e w' => ∃ v', e = .returned v' ∧ Wh w' v' z ∧ Below wq.heap.size wq w'
theorem Wh.agg {w : World} {v : Value} {x : Int} (h : Wh w v x) : ∃ b a n c, v = .agg #[.bool b, .slice a n c] := by
  obtain ⟨ao, c, rfl, _⟩ := h
  exact ⟨_, _, _, _, rfl⟩

theorem does_plus (x y : Int) : Does 33 x y (x + y) := fun wq vx vy hx hy lx ly => hPlus vx vy x y wq hx hy (by omega) (by omega)
theorem does_times (x y : Int) : Does 39 x y (x * y) := fun wq vx vy hx hy lx ly => hTimes vx vy x y wq hx hy (by omega) (by omega)

/-- What a call answers, and what is there when it is stored into a box. -/
theorem to_box {f : FuncId} {args : Array Value} {X : Nat} {T : TypeId} {v0 : Value} {b0 : Bool} {w0 w : World} {z : Int} (h : Calls Tryd.prog f args w fun e w' => ∃ v', e = .returned v' ∧ Wh w' v' z ∧ Below w.heap.size w w') (hX : w.heap[X]? = some (.cells #[.bool b0, v0] T (0, 0))) (hb : Below w0.heap.size w0 w) (hBX : w0.heap.size ≤ X) :
    Calls Tryd.prog f args w fun e w' => ∃ b' sl, e = .returned (.agg #[.bool b', sl]) ∧ (∃ a' n' c', sl = .slice a' n' c') ∧ BoxF w' X (.bool b0) v0 (.bool b') sl ∧ Below w.heap.size w w' ∧ Hid (∀ wf : World, wf.heap = ((w'.setCell ⟨X, 0, none⟩ (.bool b')).setCell ⟨X, 1, none⟩ sl).heap → wf.os = w'.os → wf.tape = w'.tape → wf.output = w'.output → Wh wf (.agg #[.bool b', sl]) z ∧ Below w0.heap.size w0 wf) := by
  refine h.mono ?_
  rintro e w' ⟨v', rfl, hw, hb2⟩
  obtain ⟨a', c', rfl, _⟩ := id hw
  have hX' : w'.heap[X]? = some (.cells #[.bool b0, v0] T (0, 0)) := by
    rw [hb2.block _ (Array.getElem?_eq_some_iff.1 hX).1]; exact hX
  obtain ⟨q1, q2⟩ := stored hX' hw (hb.trans (hb2.mono hb.size)) hBX
  refine ⟨_, _, rfl, ⟨_, _, _, rfl⟩, boxF hX' _ _, hb2, fun wf e1 e2 e3 e4 => ⟨?_, ?_⟩⟩
  · obtain ⟨a, c, e, k1, k2⟩ := q1
    refine ⟨a, c, e, ⟨?_, k1.2⟩, k2⟩
    obtain ⟨a2, c2, f1, f2, f3, f4⟩ := k1.1
    refine ⟨a2, c2, f1, f2, f3, f4.imp id ?_⟩
    rintro ⟨g, f5, f6⟩
    refine ⟨g, f5, fun i hi => ?_⟩
    rw [World.cell?_of_block (w := (w'.setCell ⟨X, 0, none⟩ _).setCell ⟨X, 1, none⟩ _) (by rw [e1])]
    exact f6 i hi
  · exact ⟨e2.trans q2.os, e3.trans q2.tape, e4.trans q2.output, by rw [e1]; exact q2.size, fun k hk => by rw [e1]; exact q2.block k hk⟩

set_option maxRecDepth 100000 in
set_option maxHeartbeats 2000000 in
theorem does_minus (x y : Int) : Does 37 x y (x - y) := fun w vx vy hx hy lx ly => by
  obtain ⟨bx, ao, n, c, rfl⟩ := hx.agg
  obtain ⟨by', bo, m, d, rfl⟩ := hy.agg
  obtain ⟨W0, hW0⟩ : ∃ W0, ((w.alloc (.cells #[.bool bx, .slice ao n c] 48)).alloc (.cells #[.bool by', .slice bo m d] 48)).alloc (.cells #[.bool false, .slice none 0 0] 48) = W0 := ⟨_, rfl⟩
  have hsz : W0.heap.size = w.heap.size + 3 := by rw [← hW0]; simp
  have hB0 : Below w.heap.size w W0 := by rw [← hW0]; exact (((Below.refl _ w).alloc (Nat.le_refl _) _).alloc (by simp) _).alloc (by simp; omega) _
  have hX0 : W0.heap[w.heap.size]? = some (.cells #[.bool bx, .slice ao n c] 48 (0, 0)) := by
    rw [← hW0, Below.heap_alloc _ _ _ (by simp; omega), Below.heap_alloc _ _ _ (by simp)]
    exact heap_alloc_at _ _ _ rfl
  have hX1 : W0.heap[w.heap.size + 1]? = some (.cells #[.bool by', .slice bo m d] 48 (0, 0)) := by
    rw [← hW0, Below.heap_alloc _ _ _ (by simp)]
    exact heap_alloc_at _ _ _ (by simp)
  have hX2 : W0.heap[w.heap.size + 1 + 1]? = some (.cells #[.bool false, .slice none 0 0] 48 (0, 0)) := by
    rw [← hW0]
    exact heap_alloc_at _ _ _ (by simp)
  have hb0 : Below W0.heap.size W0 W0.drew := blw_drewN 1 (Below.refl _ W0)
  have HS : Hid (∀ wq, Below W0.heap.size W0 wq → wq.cell? ⟨w.heap.size, 0, none⟩ = some (.bool bx) ∧ wq.cell? ⟨w.heap.size, 1, none⟩ = some (.slice ao n c) ∧ wq.cell? ⟨w.heap.size + 1, 0, none⟩ = some (.bool by') ∧ wq.cell? ⟨w.heap.size + 1, 1, none⟩ = some (.slice bo m d)) := fun wq hq => by
    have e0 : wq.heap[w.heap.size]? = _ := (hq.block _ (by omega)).trans hX0
    have e1 : wq.heap[w.heap.size + 1]? = _ := (hq.block _ (by omega)).trans hX1
    exact ⟨by rw [cells_at e0 0]; rfl, by rw [cells_at e0 1]; rfl, by rw [cells_at e1 0]; rfl, by rw [cells_at e1 1]; rfl⟩
  have HS2 : Hid (∀ wq u u', Below W0.heap.size W0 wq → ((wq.setCell ⟨w.heap.size + 1 + 1, 0, none⟩ u).setCell ⟨w.heap.size + 1 + 1, 1, none⟩ u').cell? ⟨w.heap.size, 0, none⟩ = some (.bool bx) ∧ ((wq.setCell ⟨w.heap.size + 1 + 1, 0, none⟩ u).setCell ⟨w.heap.size + 1 + 1, 1, none⟩ u').cell? ⟨w.heap.size, 1, none⟩ = some (.slice ao n c) ∧ ((wq.setCell ⟨w.heap.size + 1 + 1, 0, none⟩ u).setCell ⟨w.heap.size + 1 + 1, 1, none⟩ u').cell? ⟨w.heap.size + 1, 0, none⟩ = some (.bool by') ∧ ((wq.setCell ⟨w.heap.size + 1 + 1, 0, none⟩ u).setCell ⟨w.heap.size + 1 + 1, 1, none⟩ u').cell? ⟨w.heap.size + 1, 1, none⟩ = some (.slice bo m d)) := fun wq u u' hq => by
    obtain ⟨q1, q2, q3, q4⟩ := HS.out wq hq
    exact ⟨by rw [World.cell?_setCell_other _ _ _ _ (by first | (simp; done) | (simp; omega)), World.cell?_setCell_other _ _ _ _ (by first | (simp; done) | (simp; omega))]; exact q1, by rw [World.cell?_setCell_other _ _ _ _ (by first | (simp; done) | (simp; omega)), World.cell?_setCell_other _ _ _ _ (by first | (simp; done) | (simp; omega))]; exact q2, by rw [World.cell?_setCell_other _ _ _ _ (by simp), World.cell?_setCell_other _ _ _ _ (by simp)]; exact q3, by rw [World.cell?_setCell_other _ _ _ _ (by simp), World.cell?_setCell_other _ _ _ _ (by simp)]; exact q4⟩
  have HC1 : Hid (∀ wq, Below W0.heap.size W0 wq → Calls Tryd.prog 38 #[.agg #[.bool by', .slice bo m d]] wq fun e w' => ∃ zb za zn zc, e = .returned (.agg #[.bool zb, .slice za zn zc]) ∧ Hid (Wh w' (.agg #[.bool zb, .slice za zn zc]) (-y)) ∧ Below W0.heap.size W0 w') := fun wq hq => by
    have k : Below w.heap.size w wq := hB0.trans (hq.mono (by omega))
    refine (turned _ y wq (hy.below k (Nat.le_refl _))).mono ?_
    rintro e w' ⟨v, rfl, ho, hb⟩
    obtain ⟨zb, za, zn, zc, rfl⟩ := ho.agg
    exact ⟨zb, za, zn, zc, rfl, ho, hq.trans (hb.mono hq.size)⟩
  have HC2 : Hid (∀ w1 v, Below W0.heap.size W0 w1 → Wh w1 v (-y) → Calls Tryd.prog 33 #[.agg #[.bool bx, .slice ao n c], v] w1 fun e w' => ∃ b' sl, e = .returned (.agg #[.bool b', sl]) ∧ (∃ a' n' c', sl = .slice a' n' c') ∧ BoxF w' (w.heap.size + 1 + 1) (.bool false) (.slice none 0 0) (.bool b') sl ∧ Below W0.heap.size W0 w' ∧ Hid (∀ wf : World, wf.heap = ((w'.setCell ⟨w.heap.size + 1 + 1, 0, none⟩ (.bool b')).setCell ⟨w.heap.size + 1 + 1, 1, none⟩ sl).heap → wf.os = w'.os → wf.tape = w'.tape → wf.output = w'.output → Wh wf (.agg #[.bool b', sl]) (x - y) ∧ Below w.heap.size w wf)) := fun w1 v hq hs1 => by
    have k : Below w.heap.size w w1 := hB0.trans (hq.mono (by omega))
    have hp := hPlus _ v x (-y) w1 (hx.below k (Nat.le_refl _)) hs1 (by omega) (by rw [Int.natAbs_neg]; omega)
    rw [show x + -y = x - y by omega] at hp
    refine (to_box (w0 := w) hp ((hq.block _ (by omega)).trans hX2) k (by omega)).mono ?_
    rintro e w' ⟨b', sl, q1, q2, q3, q4, q5⟩
    exact ⟨b', sl, q1, q2, q3, hq.trans (q4.mono hq.size), q5⟩
  clear hx hy hX0 hX1 hX2 hB0
  obtain ⟨d0, d1, d2, d3⟩ := HS.out W0 (Below.refl _ _)
  go_enter Tryd.func37, Tryd.ntmps37
  go_wp2_with fail
  go_region_held (fun wq => wq.cell? ⟨w.heap.size, 0, none⟩ = some (.bool bx) ∧ wq.cell? ⟨w.heap.size, 1, none⟩ = some (.slice ao n c) ∧ wq.cell? ⟨w.heap.size + 1, 0, none⟩ = some (.bool by') ∧ wq.cell? ⟨w.heap.size + 1, 1, none⟩ = some (.slice bo m d))
    (first | exact HS.out _ (by assumption) | exact HS2.out _ _ _ (by assumption) | go_keep)
    (first
      | (go_at_call 38; refine (HC1.out _ hb0).mono ?_; rintro e' w1 ⟨zb, za, zn, zc, rfl, z1, k1⟩)
      | (go_at_call 33; refine (HC2.out _ _ k1 z1.out).mono ?_; rintro e' w2 ⟨b2, sl2, rfl, ⟨a2, n2, c2, rfl⟩, ⟨x0, x1, x2, x3, x4, x5⟩, k2, HX⟩))
  go_wp2
  refine bodyPost_ret (v := .agg #[.bool b2, .slice a2 n2 c2]) (by simp [results, Tryd.results37, go_sem, x4, x5]) rfl ?_
  exact ⟨_, rfl, HX.out _ (by rfl) (by rfl) (by rfl) (by rfl)⟩
end Go.Proofs.YtcnlclocnnijgaaDoor
