/-
  A division's memory as it goes on: the boxes of quotient and rest, and the quotient's row. No condition.
-/
import Derived.Test.YtcnlclocnnijgaaDoorNOverL
import Derived.Test.YtcnlclocnnijgaaDoorNIns2
import Derived.Test.YtcnlclocnnijgaaDoorNTimes
import Derived.Test.YtcnlclocnnijgaaDoorNMinus
import Derived.Test.YtcnlclocnnijgaaDoorNGuess
import Derived.Test.YtcnlclocnnijgaaDoorNWhole2
namespace Go.Proofs.YtcnlclocnnijgaaDoor
open Go.RowKit Go.Shelf
set_option linter.unusedVariables false

/-- The quotient's row and box, the rest's box, the iterator's box. -/
structure Ovb (N L : Nat) (sv rv : Value) (f : Nat → Nat) (W : World) : Prop where
  hq : ∃ cur, W.heap[N]? = some (.cells cur 69 (0, 0)) ∧ cur.toList = (lst (fun i => (f i : Int)) L).map (Value.int .u64)
  hqb : W.heap[N + 1]? = some (.cells #[.slice (some ⟨N, 0, none⟩) L L] 46 (0, 0))
  hrb : W.heap[N + 1 + 1]? = some (.cells #[rv] 46 (0, 0))
  hs : W.heap[N + 1 + 1 + 1]? = some (.cells #[sv] 46 (0, 0))
theorem Ovb.kept {N L : Nat} {sv rv : Value} {f : Nat → Nat} {W W' : World} (h : Ovb N L sv rv f W) (k : CellsKept W W') : Ovb N L sv rv f W' := by
  obtain ⟨cur, h1, h2⟩ := h.hq
  exact ⟨⟨cur, k _ _ h1 rfl, h2⟩, k _ _ h.hqb rfl, k _ _ h.hrb rfl, k _ _ h.hs rfl⟩
theorem Ovb.lt {N L : Nat} {sv rv : Value} {f : Nat → Nat} {W : World} (h : Ovb N L sv rv f W) : N + 1 + 1 + 1 + 1 ≤ W.heap.size := (Array.getElem?_eq_some_iff.1 h.hs).1
theorem Ovb.below {N L : Nat} {sv rv : Value} {f : Nat → Nat} {W W' : World} (h : Ovb N L sv rv f W) (b : Below (N + 1 + 1 + 1 + 1) W W') : Ovb N L sv rv f W' := by
  obtain ⟨cur, h1, h2⟩ := h.hq
  exact ⟨⟨cur, (b.block N (by omega)).trans h1, h2⟩, (b.block _ (by omega)).trans h.hqb, (b.block _ (by omega)).trans h.hrb, (b.block _ (by omega)).trans h.hs⟩
theorem Ovb.rest {N L : Nat} {sv rv : Value} {f : Nat → Nat} {W : World} (h : Ovb N L sv rv f W) (rv' : Value) : Ovb N L sv rv' f (W.setCell ⟨N + 1 + 1, 0, none⟩ rv') := by
  obtain ⟨cur, h1, h2⟩ := h.hq
  refine ⟨⟨cur, (heap_set_other _ (by omega) _ _).trans h1, h2⟩, (heap_set_other _ (by omega) _ _).trans h.hqb, ?_, (heap_set_other _ (by omega) _ _).trans h.hs⟩
  rw [heap_setCell_same W (N + 1 + 1) 0 #[rv] 46 rv' h.hrb]
  rfl
theorem Ovb.put {N L : Nat} {sv rv : Value} {f : Nat → Nat} {W : World} (h : Ovb N L sv rv f W) (hL : L ≤ 1000000) (j : Nat) (hj : j < L) (q : Nat) : Ovb N L sv rv (fun i => if i = j then q else f i) (W.setCell ⟨N, j, none⟩ (.int .u64 (q : Int))) := by
  have o1 := row_own (B := N) (Nat.le_refl _) hL h.hq
  have o2 := (o1.set j hj (q : Int)).ext (g := fun i => (((if i = j then q else f i) : Nat) : Int)) (fun i hi => by
    by_cases e : i = j
    · simp [e]
    · simp [e])
  exact ⟨own_row o2, (heap_set_other _ (by omega) _ _).trans h.hqb, (heap_set_other _ (by omega) _ _).trans h.hrb, (heap_set_other _ (by omega) _ _).trans h.hs⟩
theorem Ovb.cells {N L : Nat} {sv rv : Value} {f : Nat → Nat} {W : World} (h : Ovb N L sv rv f W) :
    W.cell? ⟨N + 1, 0, none⟩ = some (.slice (some ⟨N, 0, none⟩) L L) ∧ W.cell? ⟨N + 1 + 1, 0, none⟩ = some rv ∧ W.frozen? ⟨N + 1 + 1, 0, none⟩ = false ∧ (∀ j, W.frozen? ⟨N, j, none⟩ = false) ∧ ∀ j, j < L → W.cell? ⟨N, j, none⟩ = some (.int .u64 (f j : Int)) := by
  obtain ⟨cur, h1, h2⟩ := h.hq
  refine ⟨by rw [cells_at h.hqb 0]; rfl, by rw [cells_at h.hrb 0]; rfl, cells_free h.hrb 0, fun j => cells_free h1 j, fun j hj => ?_⟩
  rw [cells_at h1 j, ← Array.getElem?_toList, h2, List.getElem?_map, lst_get _ _ _ hj]
  rfl

theorem OwS.kept {W W' : World} {B : Nat} {v : Value} {n : Nat} (h : OwS W B v n) (k : CellsKept W W') : OwS W' B v n := by
  refine ⟨⟨h.1.1, ?_⟩, h.2⟩
  rcases h.1.2 with h1 | ⟨b, cap, cur, h1, h2, h3, h4⟩
  · exact .inl h1
  · exact .inr ⟨b, cap, cur, h1, h2, k _ _ h3 rfl, h4⟩
theorem OwS.set {W : World} {B g i : Nat} {v u : Value} {n : Nat} (h : OwS W B v n) (hg : g < B) : OwS (W.setCell ⟨g, i, none⟩ u) B v n :=
  ⟨row_set h.1 (fun e => by have := (World.ownsRow.lt h.1 g e).1; omega) i u, h.2⟩
/-- A limb's own row, as a size ahead of its trimming. -/
theorem one_row {W : World} {B b q : Nat} (h : W.heap[b]? = some (.cells #[.int .u64 (q : Int)] 69 (0, 0))) (hB : B ≤ b) (hq : q < 1000000000) : OwN .u64 69 W B (.slice (some ⟨b, 0, none⟩) 1 1) 1 (fun i => (lb q i : Int)) := by
  refine row_own hB (by decide) ⟨_, h, ?_⟩
  have e : lb q 0 = q := by rw [lb_zero]; omega
  simp [lst, e]
theorem ln_one {q : Nat} (h0 : q ≠ 0) (h : q < 1000000000) : ln q = 1 := by
  rw [ln_pos h0, show q / 1000000000 = 0 by omega, ln_zero]
/-- A step of a round: what is no cells stays, blocks below N stay, and the iterator's box. -/
theorem Stp.set {N : Nat} {W : World} {g i : Nat} {v : Value} (hg : N ≤ g) (h3 : g ≠ N + 1 + 1 + 1) : Stp N (N + 1 + 1 + 1) W (W.setCell ⟨g, i, none⟩ v) :=
  ⟨fun B => (KeepsOthers.setCell _ _ _).from B, (Below.refl _ W).setCell (p := ⟨g, i, none⟩) hg v, heap_set_other _ (by omega) _ _⟩
theorem Stp.of_keeps {N : Nat} {W W' : World} (h : KeepsOthers W W') (b : Below (N + 1 + 1 + 1 + 1) W W') : Stp N (N + 1 + 1 + 1) W W' :=
  ⟨fun B => h.from B, b.mono (by omega), b.block _ (by omega)⟩
end Go.Proofs.YtcnlclocnnijgaaDoor
