/-
  Contract of the document's New over Rk.
-/
import Derived.Test.YtmjoklppibfdmaaDoorGj
namespace Go.Proofs.YtmjoklppibfdmaaDoor
open Go.RowKit
set_option linter.unusedVariables false

/-- New behind k rounds. -/
def NewK (w : World) (X B k : Nat) (vB : Value) : Prop := ∃ qb qc, w.heap[X]? = some (.cells #[vB, .slice none 0 0] 106 (0, 0)) ∧ Mine w B vB k qb qc (fun _ _ => 0)
theorem NewK.step {w w1 w2 wf : World} {X B k : Nat} {vB v2 : Value} {qb qc : Nat → Nat} (hX : w.heap[X]? = some (.cells #[vB, .slice none 0 0] 106 (0, 0))) (h : Mine w B vB k qb qc (fun _ _ => 0)) (hb1 : Below w.heap.size w w1) (hB : B ≤ w.heap.size) {g c1 : Nat} (ho : Own w1 w.heap.size (.slice (some ⟨g, 0, none⟩) 128 c1) (lst (fun _ => 0) 128)) (o : Obj)
    (h2 : w2.ownsRow B 34 1 v2 (k + 1) (rowL k qb qc ++ [.slice (some ⟨g, 0, none⟩) 128 c1])) (hg2 : (w1.alloc o).grownBy w2 vB.ownBlock) :
    w2.heap[X]? = some (.cells #[vB, .slice none 0 0] 106 (0, 0)) ∧ (wf.heap = (w2.setCell ⟨X, 0, none⟩ v2).heap → NewK wf X B (k + 1) v2) := by
  have hs1 := hb1.size
  have hXl : X < w.heap.size := (Array.getElem?_eq_some_iff.1 hX).1
  have hsz : (w1.alloc o).heap.size = w1.heap.size + 1 := by simp
  have nX : vB.ownBlock ≠ some X := fun e => by
    obtain ⟨c3, k3⟩ := row_block h.own e
    exact two_types hX k3 (by decide) rfl
  have hX2 : w2.heap[X]? = some (.cells #[vB, .slice none 0 0] 106 (0, 0)) := by
    rw [hg2.block X (by omega) (fun e => nX e.symm), heap_alloc_past _ _ _ (by omega), hb1.block X hXl]
    exact hX
  have hM := h.snoc hb1 hB ho o h2 hg2
  refine ⟨hX2, fun e1 => ⟨fun j => if j = k then g else qb j, fun j => if j = k then c1 else qc j, ?_, ?_⟩⟩
  · rw [e1, heap_set_same hX2]; rfl
  · have n2 : v2.ownBlock ≠ some X := fun e => by
      obtain ⟨c3, k3⟩ := row_block h2 e
      exact two_types hX2 k3 (by decide) rfl
    have nq : ∀ j, j < k + 1 → (if j = k then g else qb j) ≠ X := fun j hj e => by
      obtain ⟨c4, k4⟩ := hM.ty j hj
      exact two_types k4 hX2 (by decide) e
    have r1 : (w2.setCell ⟨X, 0, none⟩ v2).ownsRow B 34 1 v2 (k + 1) _ := row_set hM.own n2 _ _
    refine ⟨row_heap r1 e1, fun j hj => ?_, fun j hj => ?_, hM.ge⟩
    · rcases hM.from_ j hj with ⟨e, _⟩ | ⟨x, e, hh⟩
      · cases e
      · cases e
        refine .inr ⟨_, rfl, fun q hq => ?_⟩
        have h9 := hh q hq
        rw [Addr.add_lit] at h9 ⊢
        rw [World.cell?_of_block (w := w2) (by rw [e1]; exact heap_set_other _ (nq j hj) _ _)]
        exact h9
    · rw [e1, heap_set_other _ (nq j hj)]
      exact hM.ty j hj
theorem NewK.rk {w wf : World} {X n : Nat} {vB : Value} (h : NewK wf X w.heap.size n vB) (hX : w.heap.size ≤ X) (n1 : 1 ≤ n) (n2 : n ≤ 4096) : Rk wf X (fun k => w.heap.size ≤ k ∧ k < wf.heap.size) n (fun _ => 0) 0 (fun _ => 0) (fun _ => 0) := by
  obtain ⟨qb, qc, hX1, hM⟩ := h
  obtain ⟨g, c, e, hgl, _⟩ := row_some hM.own (by omega)
  subst e
  have hXl : X < wf.heap.size := (Array.getElem?_eq_some_iff.1 hX1).1
  exact ⟨g, c, .slice none 0 0, qb, qc, fun _ => 0, fun _ => 0, ⟨hX1, row_block hM.own rfl, hM.rws, World.ownsRow_nil _ _ _ _, fun j hj => by omega, ⟨hX, hXl⟩, ⟨(World.ownsRow.lt hM.own g rfl).1, hgl⟩, (fun k hk => by cases hk), fun i hi => ⟨hM.ge i hi, hM.lt i hi⟩, fun j hj => by omega, hM.ty, fun j hj => by omega, fun k hk => hk.2, fun j hj => by omega, fun _ => by decide, fun _ => by decide, n1, n2⟩⟩

end Go.Proofs.YtmjoklppibfdmaaDoor
