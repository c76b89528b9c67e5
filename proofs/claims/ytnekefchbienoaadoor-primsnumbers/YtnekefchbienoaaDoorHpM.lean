/-
  Words for memory: what stays where other blocks change (Part), blocks of cells, a row of one's own.
-/
import Derived.WalkKit
import Derived.Deep.QuietTactic
import Derived.Test.YtnekefchbienoaaDoorProg
import Derived.WalkLawsBesides
import Derived.WalkSpells
import Derived.Laws.AppendOwnNone
import Derived.Deep.RegionWith
import Derived.BigQuiet
import Derived.BigRegion
import Derived.Deep.OwnRows
import Derived.Maps.AppendAt
import Derived.OwnWalk
import Derived.Test.YtnekefchbienoaaDoorNTexts
import Derived.Deep.RegionHeld
import Derived.Deep.RegionHeld2
namespace Go.Proofs.YtnekefchbienoaaDoor
open Go.RowKit
set_option linter.unusedVariables false

/-- Of the blocks that are there only F's may change. -/
structure Part (F : Nat → Prop) (w w' : World) : Prop where
  os : w'.os = w.os
  tape : w'.tape = w.tape
  output : w'.output = w.output
  size : w.heap.size ≤ w'.heap.size
  block : ∀ k, k < w.heap.size → ¬ F k → w'.heap[k]? = w.heap[k]?
theorem Part.refl (F : Nat → Prop) (w : World) : Part F w w := ⟨rfl, rfl, rfl, Nat.le_refl _, fun _ _ _ => rfl⟩
theorem Part.trans {F G : Nat → Prop} {a b c : World} (h : Part F a b) (k : Part G b c) (hG : ∀ i, i < a.heap.size → G i → F i) : Part F a c :=
  ⟨k.os.trans h.os, k.tape.trans h.tape, k.output.trans h.output, Nat.le_trans h.size k.size, fun i hi hn => (k.block i (Nat.lt_of_lt_of_le hi h.size) (fun g => hn (hG i hi g))).trans (h.block i hi hn)⟩
theorem Part.mono {F G : Nat → Prop} {a b : World} (h : Part F a b) (hG : ∀ i, i < a.heap.size → F i → G i) : Part G a b :=
  ⟨h.os, h.tape, h.output, h.size, fun i hi hn => h.block i hi (fun g => hn (hG i hi g))⟩
theorem Part.ofBelow {F : Nat → Prop} {w w' : World} (h : Below w.heap.size w w') : Part F w w' := ⟨h.os, h.tape, h.output, h.size, fun k hk _ => h.block k hk⟩
theorem Part.below {F : Nat → Prop} {B : Nat} {w w' : World} (h : Part F w w') (hF : ∀ k, F k → B ≤ k) (hB : B ≤ w.heap.size) : Below B w w' :=
  ⟨h.os, h.tape, h.output, h.size, fun k hk => h.block k (by omega) (fun f => by have := hF k f; omega)⟩
theorem Part.alloc {F : Nat → Prop} {a w : World} (h : Part F a w) (o : Obj) : Part F a (w.alloc o) :=
  h.trans (Part.ofBelow (F := fun _ => False) ((Below.refl _ w).alloc (Nat.le_refl _) o)) (fun _ _ h => h.elim)
theorem Part.drewN {F : Nat → Prop} {a w : World} (h : Part F a w) (q : Nat) : Part F a (w.drewN q) := ⟨h.os, h.tape, h.output, h.size, h.block⟩
theorem Part.setCell {F : Nat → Prop} {a w : World} (h : Part F a w) {p : Addr} (hp : p.block < a.heap.size → F p.block) (u : Value) : Part F a (w.setCell p u) :=
  h.trans (G := fun k => k = p.block) ⟨rfl, rfl, rfl, by simp [World.setCell], fun k hk hn => Below.heap_setCell _ _ _ _ hn⟩ (fun i hi e => by rw [e] at hi ⊢; exact hp hi)
theorem Part.grown {F : Nat → Prop} {a w w' : World} {row : Option Nat} (h : Part F a w) (hg : w.grownBy w' row) (hr : ∀ k, row = some k → k < a.heap.size → F k) : Part F a w' :=
  h.trans (G := fun k => row = some k) ⟨hg.os, hg.tape, hg.output, hg.size, fun k hk hn => hg.block k hk (fun e => hn e.symm)⟩ (fun i hi e => hr i e hi)
theorem Part.cell {F : Nat → Prop} {w w' : World} (h : Part F w w') {p : Addr} {v : Value} (hp : ¬ F p.block) (hc : w.cell? p = some v) : w'.cell? p = some v := by
  rw [World.cell?_of_block (w := w) (h.block p.block (World.block_lt_of_cell? w _ hc) hp)]; exact hc
theorem Part.row {F : Nat → Prop} {w w' : World} {B : Nat} {e : TypeId} {sz : Nat} {v : Value} {n : Nat} {xs : List Value} (h : Part F w w') (ho : w.ownsRow B e sz v n xs) (hn : ∀ k, v.ownBlock = some k → ¬ F k) : w'.ownsRow B e sz v n xs := by
  have hlt := World.ownsRow.lt ho
  refine ⟨ho.1, ?_⟩
  rcases ho.2 with h2 | ⟨g, cap, cur, h1, h2, h3, h4⟩
  · exact .inl h2
  · subst h1
    exact .inr ⟨g, cap, cur, rfl, h2, by rw [h.block g (hlt g rfl).2 (hn g rfl)]; exact h3, h4⟩
theorem heap_setCell_same (w : World) (T i : Nat) (cs : Array Value) (t : TypeId) (v : Value) (h : w.heap[T]? = some (.cells cs t (0, 0))) : (w.setCell ⟨T, i, none⟩ v).heap[T]? = some (.cells (cs.setIfInBounds i v) t (0, 0)) := by
  simp [World.setCell, Array.getElem?_modify, h]
theorem heap_set_at {w : World} {T i : Nat} {cs : Array Value} {t : TypeId} (h : w.heap[T]? = some (.cells cs t (0, 0))) (v : Value) : (w.setCell ⟨T, i, none⟩ v).heap[T]? = some (.cells (cs.setIfInBounds i v) t (0, 0)) := by
  rw [heap_setCell_same w T i cs t v h]
end Go.Proofs.YtnekefchbienoaaDoor
