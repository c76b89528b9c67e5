/-
  Slices of bytes that lie somewhere (Img); the contract of the law's own Image over them.
-/
import Derived.Test.YtnaobkpncfbnaaaGreatDoorDkSees
namespace Go.Proofs.YtnaobkpncfbnaaaGreatDoor
open Go.RowKit
set_option linter.unusedVariables false

/-- N slices of bytes: the i-th of L i bytes, f i's. -/
def Img (w : World) (a0 : Option Addr) (N : Nat) (A : Nat → Option Addr) (L C : Nat → Nat) (f : Nat → Nat → Int) : Prop := ∀ i, i < N → ∃ b off, a0 = some ⟨b, off, none⟩ ∧ w.cell? ⟨b, off + i, none⟩ = some (.slice (A i) (L i) (C i)) ∧ From w (A i) (L i) (f i) ∧ (A i = none → C i = 0)
theorem Img.below {w w' : World} {a0 : Option Addr} {N : Nat} {A : Nat → Option Addr} {L C : Nat → Nat} {f : Nat → Nat → Int} (h : Img w a0 N A L C f) (hb : Below w.heap.size w w') : Img w' a0 N A L C f := fun i hi => by
  obtain ⟨b, off, e, hc, hf, hn⟩ := h i hi
  exact ⟨b, off, e, by rw [hb.cell (p := ⟨b, off + i, none⟩) (World.block_lt_of_cell? w _ hc)]; exact hc, hf.below hb (Nat.le_refl _), hn⟩
def gL (k : Nat) (A : Nat → Option Addr) (L C : Nat → Nat) : List Value := (List.range k).map fun j => .slice (A j) (L j) (C j)
theorem gL_snoc (k : Nat) (A : Nat → Option Addr) (L C : Nat → Nat) (a : Option Addr) (c : Nat) : gL k A L C ++ [.slice a (L k) c] = gL (k + 1) (fun j => if j = k then a else A j) L (fun j => if j = k then c else C j) := by
  unfold gL
  rw [List.range_succ, List.map_append]
  congr 1
  · apply List.map_congr_left
    intro j hj
    have := List.mem_range.1 hj
    have e : j ≠ k := by omega
    simp only [if_neg e]
  · simp
theorem gL_get (k : Nat) (A : Nat → Option Addr) (L C : Nat → Nat) (j : Nat) (hj : j < k) : (gL k A L C)[j]? = some (.slice (A j) (L j) (C j)) := by
  simp [gL, hj]
/-- k slices of bytes of one's own, each with bytes of its own. -/
structure MineG (w : World) (B : Nat) (v : Value) (k : Nat) (A : Nat → Option Addr) (L C : Nat → Nat) (f : Nat → Nat → Int) : Prop where
  own : w.ownsRow B 36 1 v k (gL k A L C)
  each : ∀ j, j < k → Own w B (.slice (A j) (L j) (C j)) (lst (f j) (L j))
theorem MineG.snoc {w w1 w2 : World} {B : Nat} {v v2 : Value} {k : Nat} {A : Nat → Option Addr} {L C : Nat → Nat} {f : Nat → Nat → Int} (h : MineG w B v k A L C f) (hb1 : Below w.heap.size w w1) (hB : B ≤ w.heap.size) {a1 : Option Addr} {c1 : Nat} (ho : Own w1 w.heap.size (.slice a1 (L k) c1) (lst (f k) (L k))) (o : Obj)
    (h2 : w2.ownsRow B 36 1 v2 (k + 1) (gL k A L C ++ [.slice a1 (L k) c1])) (hg2 : (w1.alloc o).grownBy w2 v.ownBlock) : MineG w2 B v2 (k + 1) (fun j => if j = k then a1 else A j) L (fun j => if j = k then c1 else C j) f := by
  have hp1 : Part (fun q => v.ownBlock = some q) w1 w2 := ((Part.refl _ w1).alloc o).grown hg2 (fun k hk _ => hk)
  have hp : Part (fun q => v.ownBlock = some q) w w2 := (Part.ofBelow hb1).trans hp1 (fun _ _ h => h)
  refine ⟨by rw [← gL_snoc]; exact h2, fun j hj => ?_⟩
  by_cases e : j = k
  · subst e
    rw [if_pos rfl, if_pos rfl]
    have h9 : Own w2 w.heap.size (.slice a1 (L j) c1) (lst (f j) (L j)) := hp1.row ho (fun q hq e => by
      have := (World.ownsRow.lt ho q hq).1
      have := (World.ownsRow.lt h.own q e).2
      omega)
    exact h9.mono hB
  · rw [if_neg e, if_neg e]
    exact hp.row (h.each j (by omega)) (fun q hq e2 => by
      obtain ⟨c3, k3⟩ := row_block h.own e2
      obtain ⟨c4, k4⟩ := row_block (h.each j (by omega)) hq
      exact two_types k4 k3 (by decide) rfl)
theorem MineG.img {w : World} {B N c : Nat} {a : Option Addr} {A : Nat → Option Addr} {L C : Nat → Nat} {f : Nat → Nat → Int} (h : MineG w B (.slice a N c) N A L C f) : Img w a N A L C f := fun i hi => by
  obtain ⟨g, c', e, _⟩ := row_some h.own (by omega)
  injection e with e1 e2 e3
  subst e1
  subst e3
  obtain ⟨a9, c9, e9, hf, hn⟩ := own_any (h.each i hi)
  injection e9 with x1 x2 x3
  subst x1
  subst x3
  exact ⟨g, 0, rfl, by rw [Nat.zero_add, World.ownsRow.cellAt h.own i (by omega)]; exact gL_get N A L C i hi, hf, hn⟩

end Go.Proofs.YtnaobkpncfbnaaaGreatDoor
