/-
  A buffer that is changed: dirty, change.
-/
import Derived.Test.YtnaobkpncfbnaaaGreatDoorPwA
namespace Go.Proofs.YtnaobkpncfbnaaaGreatDoor
open Go.RowKit
set_option linter.unusedVariables false

theorem s_dirtyG (x : Bf) (w : World) (h : w.heap[x.b]? = some (bufO x)) : Calls Tryz.prog 73 #[ptr x.b] w fun r w' => r = .returned (.bool (decide (0 < x.fi))) ∧ w' = w := by
  have c3 : w.cell? ⟨x.b, 3, none⟩ = some (.int .i64 (x.fi : Int)) := by rw [cells_at h 3]; rfl
  have d1 : decide ((0 : Int) < (x.fi : Int)) = decide (0 < x.fi) := by
    by_cases h : 0 < x.fi
    · rw [decide_eq_true h, decide_eq_true (by omega)]
    · rw [decide_eq_false h, decide_eq_false (by omega)]
  unfold ptr
  clear h
  go_enter Tryz.func73, Tryz.ntmps73
  go_wp2
  go_ret
  first | exact ⟨rfl, rfl⟩ | exact ⟨by rw [d1], rfl⟩ | (refine ⟨?_, rfl⟩; simp)
/-- The buffer as change leaves it. -/
def chB (x : Bf) (l : Nat) (v : Value) : Bf := { x with ls := l, fi := if x.fi = 0 then l else x.fi, ld := v }
set_option maxRecDepth 100000 in
set_option maxHeartbeats 2000000 in
theorem b_change (x : Bf) (l : Nat) (a0 : Option Addr) (c : Nat) (f : Nat → Int) (w : World) (h : w.heap[x.b]? = some (bufO x)) (hf : From w a0 112 f) (hn : ∀ y, a0 = some y → y.block ≠ x.b) : Calls Tryz.prog 45 #[ptr x.b, .int .i64 (l : Int), .slice a0 112 c] w fun r w' => r = .returned (.tuple #[]) ∧ ∃ v, w'.heap[x.b]? = some (bufO (chB x l v)) ∧ Own w' w.heap.size v (lst f 112) ∧ Part (fun k => k = x.b) w w' := by
  have hlt := (Array.getElem?_eq_some_iff.1 h).1
  have HD : Hid (Calls Tryz.prog 73 #[ptr x.b] w fun r w' => r = .returned (.bool (decide (0 < x.fi))) ∧ w' = w) := s_dirtyG x w h
  have HC : Hid (∀ w1, Part (fun k => k = x.b) w w1 → Calls Tryz.prog 10 #[.slice a0 112 c] w1 fun e w' => ∃ v', e = .returned v' ∧ Hid (Own w' w.heap.size v' (lst f 112)) ∧ Hid (Below w1.heap.size w1 w')) := fun w1 hp => by
    have hf1 : From w1 a0 112 f := by
      rcases hf with h1 | ⟨y, h1, h2⟩
      · exact .inl h1
      · exact .inr ⟨y, h1, fun j hj => hp.cell (fun e => hn y h1 (by have e2 : (y.add j).block = y.block := (by unfold Addr.add; split <;> rfl); exact e2.symm.trans e)) (h2 j hj)⟩
    exact (clone a0 112 c f w1 (by decide) hf1).mono fun e w' ⟨v, h1, h2, h3⟩ => ⟨v, h1, h2.mono hp.size, h3⟩
  have HE : Hid (∀ w1 w2 fi v, w1.heap[x.b]? = some (bufO { x with fi := fi }) → Part (fun k => k = x.b) w w1 → Below w1.heap.size w1 w2 → Own w2 w.heap.size v (lst f 112) → fi = (if x.fi = 0 then l else x.fi) → ∃ u, ((w2.setCell ⟨x.b, 1, none⟩ (.int .i64 (l : Int))).setCell ⟨x.b, 2, none⟩ v).heap[x.b]? = some (bufO (chB x l u)) ∧ Own ((w2.setCell ⟨x.b, 1, none⟩ (.int .i64 (l : Int))).setCell ⟨x.b, 2, none⟩ v) w.heap.size u (lst f 112) ∧ Part (fun k => k = x.b) w ((w2.setCell ⟨x.b, 1, none⟩ (.int .i64 (l : Int))).setCell ⟨x.b, 2, none⟩ v)) := fun w1 w2 fi v h1 p1 b1 ho hfi => by
    subst hfi
    have hs := p1.size
    have e2 := (b1.block x.b (by omega)).trans h1
    have hk : v.ownBlock ≠ some x.b := fun e => by
      rcases ho.2 with ⟨e1, _⟩ | ⟨g, cap, cur, e1, hg, _⟩
      · rw [e1] at e; cases e
      · rw [e1] at e
        have e : some g = some x.b := e
        injection e with e
        omega
    exact ⟨v, heap_set_at (heap_set_at e2 _) _, row_set (row_set ho hk 1 _) hk 2 _, ((p1.trans (Part.ofBelow (F := fun k => k = x.b) b1) (fun _ _ h => h)).setCell (p := ⟨x.b, 1, none⟩) (fun _ => rfl) _).setCell (p := ⟨x.b, 2, none⟩) (fun _ => rfl) _⟩
  have H0 : Hid (w.heap[x.b]? = some (bufO x)) := h
  have k3 : w.cell? ⟨x.b, 3, none⟩ = some (.int .i64 (x.fi : Int)) := by rw [cells_at h 3]; rfl
  have z3 : w.frozen? ⟨x.b, 3, none⟩ = false := cells_free h 3
  have HK : Hid (∀ w1 w2 fi, w1.heap[x.b]? = some (bufO { x with fi := fi }) → Below w1.heap.size w1 w2 → w2.cell? ⟨x.b, 1, none⟩ = some (.int .i64 (x.ls : Int)) ∧ w2.frozen? ⟨x.b, 1, none⟩ = false ∧ w2.cell? ⟨x.b, 2, none⟩ = some x.ld ∧ w2.frozen? ⟨x.b, 2, none⟩ = false) := fun w1 w2 fi h1 b1 => by
    have e := (b1.block x.b (Array.getElem?_eq_some_iff.1 h1).1).trans h1
    exact ⟨by rw [cells_at e 1]; rfl, cells_free e 1, by rw [cells_at e 2]; rfl, cells_free e 2⟩
  have e3 : Hid ((w.setCell ⟨x.b, 3, none⟩ (.int .i64 (l : Int))).heap[x.b]? = some (bufO { x with fi := l }) ∧ Part (fun k => k = x.b) w (w.setCell ⟨x.b, 3, none⟩ (.int .i64 (l : Int)))) := ⟨heap_set_at h _, (Part.refl (fun k => k = x.b) w).setCell (p := ⟨x.b, 3, none⟩) (fun _ => rfl) _⟩
  clear h hf hn
  by_cases hx : x.fi = 0
  · rw [hx] at HD
    have d0 : (if x.fi = 0 then l else x.fi) = l := if_pos hx
    unfold ptr at *
    clear hx
    go_enter Tryz.func45, Tryz.ntmps45
    go_wp2_with fail
    refine HD.out.mono ?_
    rintro r w1 ⟨rfl, hw⟩
    obtain rfl : w = w1 := hw.symm
    clear hw HD
    go_wp2_with fail
    obtain ⟨W1, hW⟩ : ∃ W1, w.setCell ⟨x.b, 3, none⟩ (.int .i64 (l : Int)) = W1 := ⟨_, rfl⟩
    rw [hW] at e3 ⊢
    clear k3 z3
    refine (HC.out W1 e3.out.2).mono ?_
    rintro r w2 ⟨v, rfl, ho, hb⟩
    obtain ⟨c1, f1, c2, f2⟩ := HK.out W1 w2 l e3.out.1 hb.out
    obtain ⟨va, vn, vc, rfl⟩ : ∃ a n c, v = .slice a n c := by
      rcases ho.out.2 with ⟨e, _⟩ | ⟨g, cap, cur, e, _⟩
      · exact ⟨_, _, _, e⟩
      · exact ⟨_, _, _, e⟩
    clear HC HK
    go_wp2
    go_end0
    exact ⟨rfl, HE.out _ _ _ _ e3.out.1 e3.out.2 hb.out ho.out d0.symm⟩
  · have hd : decide (0 < x.fi) = true := decide_eq_true (by omega)
    have d0 : (if x.fi = 0 then l else x.fi) = x.fi := if_neg hx
    rw [hd] at HD
    unfold ptr at *
    clear hx hd
    go_enter Tryz.func45, Tryz.ntmps45
    go_wp2_with fail
    refine HD.out.mono ?_
    rintro r w1 ⟨rfl, hw⟩
    obtain rfl : w = w1 := hw.symm
    clear hw HD
    go_wp2_with fail
    clear k3 z3
    refine (HC.out w (Part.refl _ w)).mono ?_
    rintro r w2 ⟨v, rfl, ho, hb⟩
    obtain ⟨c1, f1, c2, f2⟩ := HK.out w w2 x.fi H0.out hb.out
    obtain ⟨va, vn, vc, rfl⟩ : ∃ a n c, v = .slice a n c := by
      rcases ho.out.2 with ⟨e, _⟩ | ⟨g, cap, cur, e, _⟩
      · exact ⟨_, _, _, e⟩
      · exact ⟨_, _, _, e⟩
    clear HC HK
    go_wp2
    go_end0
    exact ⟨rfl, HE.out _ _ _ _ H0.out (Part.refl _ w) hb.out ho.out d0.symm⟩
end Go.Proofs.YtnaobkpncfbnaaaGreatDoor
