/-
  Contract of a log's settle. Condition: the state lies apart from its tail.
-/
import Derived.Test.YtnaobkpncfbnaaaGreatDoorLogC
namespace Go.Proofs.YtnaobkpncfbnaaaGreatDoor
open Go.RowKit
set_option linter.unusedVariables false

/-- Bytes of a slice that begins its block. -/
def Fst (w : World) (a : Option Addr) (n c : Nat) (f : Nat → Int) : Prop := n ≤ c ∧ c ≤ 9223372036854775807 ∧ ((a = none ∧ n = 0 ∧ c = 0) ∨ ∃ g, a = some ⟨g, 0, none⟩ ∧ ∀ i, i < n → w.cell? ⟨g, i, none⟩ = some (.int .u8 (f i)))
theorem Own.fst {w : World} {B n : Nat} {v : Value} {f : Nat → Int} (h : Own w B v (lst f n)) : ∃ a c, v = .slice a n c ∧ Fst w a n c f ∧ ∀ g, a = some ⟨g, 0, none⟩ → B ≤ g ∧ g < w.heap.size := by
  have h' := h
  unfold Own at h'
  rcases h'.2 with ⟨e, e0⟩ | ⟨g, cap, cur, e, h2, h3, h4, h5, _⟩
  · rw [lst_length] at e0
    subst e0
    exact ⟨none, 0, e, ⟨Nat.le_refl _, by decide, .inl ⟨rfl, rfl, rfl⟩⟩, fun g e => by cases e⟩
  · rw [lst_length] at e h4
    subst e
    refine ⟨_, cap, rfl, ⟨h4, by unfold maxLen at h5; omega, .inr ⟨g, rfl, fun i hi => h.cellF i hi⟩⟩, fun g' e => ?_⟩
    cases e
    exact ⟨h2, (Array.getElem?_eq_some_iff.1 h3).1⟩
theorem heap_set_at {w : World} {T i : Nat} {cs : Array Value} {t : TypeId} (h : w.heap[T]? = some (.cells cs t (0, 0))) (v : Value) : (w.setCell ⟨T, i, none⟩ v).heap[T]? = some (.cells (cs.setIfInBounds i v) t (0, 0)) := by
  rw [heap_setCell_same w T i cs t v h]

set_option maxRecDepth 100000 in
set_option maxHeartbeats 2000000 in
theorem settleL (T last place tl c : Nat) (x0 x1 x2 x3 x5 : Value) (a : Option Addr) (f : Nat → Int) (w : World) (hT : w.heap[T]? = some (.cells #[x0, x1, x2, x3, .int .i64 (last : Int), x5, .int .i64 (place : Int), .slice a tl c] 76 (0, 0))) (hf : Fst w a tl c f) (hne : ∀ g, a = some ⟨g, 0, none⟩ → g ≠ T) (htl : tl ≤ 1000000) (hpl : place ≤ 1000000) (h5 : ∃ z, x5 = .int .i64 z) :
    Calls Tryz.prog 34 #[.pointer (some ⟨T, 0, none⟩)] w fun r w' => ∃ v', r = .returned (.tuple #[]) ∧ w'.heap[T]? = some (.cells #[x0, x1, x2, x3, .int .i64 (last : Int), .int .i64 (last : Int), .int .i64 ((place + tl / 112 : Nat) : Int), v'] 76 (0, 0)) ∧ Own w' w.heap.size v' (lst (sh f (tl / 112 * 112)) (tl - tl / 112 * 112)) ∧ Part (fun q => q = T) w w' := by
  obtain ⟨z5, rfl⟩ := h5
  have hTl : T < w.heap.size := (Array.getElem?_eq_some_iff.1 hT).1
  obtain ⟨q, hq⟩ : ∃ q, tl / 112 = q := ⟨_, rfl⟩
  have hq1 : q * 112 ≤ tl := by omega
  rw [hq]
  obtain ⟨W1, hW1⟩ : ∃ W1, w.setCell ⟨T, 6, none⟩ (.int .i64 ((place : Int) + (q : Int))) = W1 := ⟨_, rfl⟩
  have hT1 : W1.heap[T]? = some (.cells #[x0, x1, x2, x3, .int .i64 (last : Int), .int .i64 z5, .int .i64 ((place : Int) + (q : Int)), .slice a tl c] 76 (0, 0)) := by rw [← hW1, heap_set_at hT]; rfl
  have hP1 : Part (fun k => k = T) w W1 := by rw [← hW1]; exact (Part.refl (fun k => k = T) w).setCell (p := ⟨T, 6, none⟩) (fun _ => rfl) _
  have hs1 : W1.heap.size = w.heap.size := by rw [← hW1]; simp [World.setCell]
  have hf1 : Fst W1 a tl c f := ⟨hf.1, hf.2.1, hf.2.2.imp id fun ⟨g, e, hg⟩ => ⟨g, e, fun i hi => by
    rw [← hW1, World.cell?_setCell_other _ _ _ _ (by simp; exact fun h => absurd h.symm (hne g e))]
    exact hg i hi⟩⟩
  have d4 : w.cell? ⟨T, 4, none⟩ = some (.int .i64 (last : Int)) := by rw [cells_at hT 4]; rfl
  have d6 : w.cell? ⟨T, 6, none⟩ = some (.int .i64 (place : Int)) := by rw [cells_at hT 6]; rfl
  have d7 : w.cell? ⟨T, 7, none⟩ = some (.slice a tl c) := by rw [cells_at hT 7]; rfl
  have f6 : w.frozen? ⟨T, 6, none⟩ = false := cells_free hT 6
  have k7 : W1.cell? ⟨T, 7, none⟩ = some (.slice a tl c) := by rw [cells_at hT1 7]; rfl
  have HE : Hid (∀ w2 v', Below W1.heap.size W1 w2 → Own w2 W1.heap.size v' (lst (sh f (q * 112)) (tl - q * 112)) → w2.cell? ⟨T, 7, none⟩ = some (.slice a tl c) ∧ w2.frozen? ⟨T, 7, none⟩ = false ∧ (w2.setCell ⟨T, 7, none⟩ v').cell? ⟨T, 4, none⟩ = some (.int .i64 (last : Int)) ∧ (w2.setCell ⟨T, 7, none⟩ v').cell? ⟨T, 5, none⟩ = some (.int .i64 z5) ∧ (w2.setCell ⟨T, 7, none⟩ v').frozen? ⟨T, 5, none⟩ = false ∧ Hid (∃ u, ((w2.setCell ⟨T, 7, none⟩ v').setCell ⟨T, 5, none⟩ (.int .i64 (last : Int))).heap[T]? = some (.cells #[x0, x1, x2, x3, .int .i64 (last : Int), .int .i64 (last : Int), .int .i64 ((place + q : Nat) : Int), u] 76 (0, 0)) ∧ Own ((w2.setCell ⟨T, 7, none⟩ v').setCell ⟨T, 5, none⟩ (.int .i64 (last : Int))) w.heap.size u (lst (sh f (q * 112)) (tl - q * 112)) ∧ Part (fun q => q = T) w ((w2.setCell ⟨T, 7, none⟩ v').setCell ⟨T, 5, none⟩ (.int .i64 (last : Int))))) := fun w2 v' hb ho => by
    have hT2 := (hb.block T (by omega)).trans hT1
    have hT3 := heap_set_at (i := 7) hT2 v'
    have hT4 := heap_set_at (i := 5) hT3 (.int .i64 (last : Int))
    refine ⟨by rw [cells_at hT2 7]; rfl, cells_free hT2 7, by rw [cells_at hT3 4]; rfl, by rw [cells_at hT3 5]; rfl, cells_free hT3 5, ⟨v', ?_, ?_, ?_⟩⟩
    · rw [hT4]
      show some (Obj.cells #[x0, x1, x2, x3, .int .i64 (last : Int), .int .i64 (last : Int), .int .i64 ((place : Int) + (q : Int)), v'] _ _) = _
      rw [show (place : Int) + (q : Int) = ((place + q : Nat) : Int) by omega]
    · have hk : v'.ownBlock ≠ some T := fun e => by have := (World.ownsRow.lt ho T e).1; omega
      have h9 : Own ((w2.setCell ⟨T, 7, none⟩ v').setCell ⟨T, 5, none⟩ (.int .i64 (last : Int))) W1.heap.size v' (lst (sh f (q * 112)) (tl - q * 112)) := row_set (row_set ho hk 7 v') hk 5 _
      exact h9.mono (by omega)
    · exact ((hP1.trans (Part.ofBelow (F := fun _ => False) hb) (fun _ _ h => h.elim)).setCell (p := ⟨T, 7, none⟩) (fun _ => rfl) _).setCell (p := ⟨T, 5, none⟩) (fun _ => rfl) _
  have hqi : (tl : Int) / 112 = (q : Int) := by omega
  have hci : (q : Int) * 112 ≤ (c : Int) := by have := hf.1; omega
  have hti : (q : Int) * 112 ≤ (tl : Int) := by omega
  have hpi : (place : Int) ≤ 1000000 := by omega
  have hqb : (q : Int) ≤ 1000000 := by omega
  clear hT hT1 hf hP1
  rcases hf1 with ⟨hc1, hc2, ⟨rfl, rfl, rfl⟩ | ⟨g, rfl, hg⟩⟩
  · obtain rfl : q = 0 := by omega
    have hW2 : w.setCell ⟨T, 6, none⟩ (.int .i64 (place : Int)) = W1 := by rw [← hW1]; simp
    have CL : Calls Tryz.prog 10 #[.slice none 0 0] W1 fun e w' => ∃ v', e = .returned v' ∧ Own w' W1.heap.size v' (lst (sh f (0 * 112)) (0 - 0 * 112)) ∧ Below W1.heap.size W1 w' := clone none 0 0 (sh f (0 * 112)) W1 (by omega) (.inl ⟨rfl, rfl⟩)
    clear hW1 hqi hci hti hqb hq hq1 hc1 hc2 hne htl
    go_enter Tryz.func34, Tryz.ntmps34
    go_wp2_with fail
    refine CL.mono ?_
    rintro e w2 ⟨v', rfl, ho, hb⟩
    obtain ⟨a', c', rfl, _, _⟩ := ho.fst
    obtain ⟨y1, y2, y3, y4, y5, y6⟩ := HE.out w2 _ hb ho
    clear HE ho CL
    go_wp2
    go_end0
    obtain ⟨u, u1, u2, u3⟩ := y6.out
    first | exact ⟨u, rfl, u1, u2, u3⟩ | exact ⟨rfl, u, u1, u2, u3⟩
  · by_cases hcE : c = q * 112
    · have htE : tl = q * 112 := by omega
      have CL : ∀ x m, m = 0 → Calls Tryz.prog 10 #[.slice (some x) m 0] W1 fun e w' => ∃ v', e = .returned v' ∧ Own w' W1.heap.size v' (lst (sh f (q * 112)) (tl - q * 112)) ∧ Below W1.heap.size W1 w' := fun x m hm => by
        rw [show tl - q * 112 = 0 by omega, hm]
        exact clone (some x) 0 0 (sh f (q * 112)) W1 (by omega) (.inr ⟨_, rfl, fun i hi => by omega⟩)
      have HCL : Hid (∀ x m, m = 0 → Calls Tryz.prog 10 #[.slice (some x) m 0] W1 fun e w' => ∃ v', e = .returned v' ∧ Own w' W1.heap.size v' (lst (sh f (q * 112)) (tl - q * 112)) ∧ Below W1.heap.size W1 w') := CL
      have hzz : tl - q * 112 = 0 := by omega
      clear hne hg CL htE
      go_enter Tryz.func34, Tryz.ntmps34
      go_wp2_with fail
      refine (HCL.out _ _ rfl).mono ?_
      rintro e w2 ⟨v', rfl, ho, hb⟩
      obtain ⟨a', c', rfl, _, _⟩ := ho.fst
      obtain ⟨y1, y2, y3, y4, y5, y6⟩ := HE.out w2 _ hb ho
      clear HE ho HCL hzz hcE
      go_wp2
      go_end0
      obtain ⟨u, u1, u2, u3⟩ := y6.out
      first | exact ⟨u, rfl, u1, u2, u3⟩ | exact ⟨rfl, u, u1, u2, u3⟩
    · have CL : Calls Tryz.prog 10 #[.slice (some ⟨g, q * 112, none⟩) (tl - q * 112) (c - q * 112)] W1 fun e w' => ∃ v', e = .returned v' ∧ Own w' W1.heap.size v' (lst (sh f (q * 112)) (tl - q * 112)) ∧ Below W1.heap.size W1 w' :=
        clone _ _ _ (sh f (q * 112)) W1 (by omega) (.inr ⟨_, rfl, fun i hi => by rw [Addr.add_lit]; exact hg (q * 112 + i) (by omega)⟩)
      have hcn : ¬ (c = q * 112) := hcE
      clear hcE hne hg
      go_enter Tryz.func34, Tryz.ntmps34
      go_wp2_with fail
      refine CL.mono ?_
      rintro e w2 ⟨v', rfl, ho, hb⟩
      obtain ⟨a', c', rfl, _, _⟩ := ho.fst
      obtain ⟨y1, y2, y3, y4, y5, y6⟩ := HE.out w2 _ hb ho
      clear HE ho CL
      go_wp2
      go_end0
      obtain ⟨u, u1, u2, u3⟩ := y6.out
      first | exact ⟨u, rfl, u1, u2, u3⟩ | exact ⟨rfl, u, u1, u2, u3⟩
end Go.Proofs.YtnaobkpncfbnaaaGreatDoor
