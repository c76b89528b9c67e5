/-
  Going through a map in the order of its names: words that its three contracts share.
-/
import Derived.RangeFuncBox
import Derived.RangeFuncLeaves
import Derived.RangeFuncNested
import Derived.RangeFuncCalls
import Derived.RangeFuncWrites
import Derived.Shelf.Abstract
import Derived.WalkKit
import Derived.OwnWalkIn
import Derived.TacticsInMore
import Derived.LoopNIn
import Derived.LoopIn
import Derived.Test.YtdackomidfofgaaStA
import Derived.Test.YtdackomidfofgaaShelfS
namespace Go.Proofs.Ytdackomidfofgaa
open Go.RowKit Go.Maps Go.Sort
set_option linter.unusedVariables false

/-- What a round keeps: the box and the map, and every row of texts. -/
structure Kq (Bx b : Nat) (W W' : World) : Prop where
  size : W.heap.size ≤ W'.heap.size
  box : W'.heap[Bx]? = W.heap[Bx]?
  map : W'.heap[b]? = W.heap[b]?
  rows : ∀ (g : Nat) (cur : Array Value) (z : Nat × Nat), W.heap[g]? = some (.cells cur 9 z) → W'.heap[g]? = some (.cells cur 9 z)
theorem Kq.refl (Bx b : Nat) (W : World) : Kq Bx b W W := ⟨Nat.le_refl _, rfl, rfl, fun _ _ _ h => h⟩
theorem Kq.trans {Bx b : Nat} {A B C : World} (h : Kq Bx b A B) (k : Kq Bx b B C) : Kq Bx b A C :=
  ⟨Nat.le_trans h.size k.size, k.box.trans h.box, k.map.trans h.map, fun g cur z e => k.rows g cur z (h.rows g cur z e)⟩
theorem Kq.put {Bx b : Nat} {w : World} (hB : Bx < w.heap.size) (hb : b < w.heap.size) (W : World) (l : Nat) (o o' : Obj) (hl : w.heap.size ≤ l) (h : W.heap[l]? = some o) (h1 : o.isCells = false) (h2 : o.isWalk = false) : Kq Bx b W (W.putObj l o') := by
  have hK := belowK_b (n₀ := w.heap.size) (w := w) (Nat.le_refl _) W l o o' hl h h1 h2
  refine ⟨hK.size, hK.block Bx hB, hK.block b hb, fun g cur z e => ?_⟩
  by_cases eg : g = l
  · subst eg
    rw [e] at h
    cases h
    cases h1
  · exact (World.putObj_heap_other eg).trans e
theorem Kq.part {Bx b : Nat} {F : Nat → Prop} {W W' : World} (h : Part F W W') (h1 : Bx < W.heap.size) (h2 : ¬ F Bx) (h3 : b < W.heap.size) (h4 : ¬ F b) (h5 : ∀ (g : Nat) (cur : Array Value) (z : Nat × Nat), W.heap[g]? = some (.cells cur 9 z) → ¬ F g) : Kq Bx b W W' :=
  ⟨h.size, h.block Bx h1 h2, h.block b h3 h4, fun g cur z e => (h.block g (Array.getElem?_eq_some_iff.1 e).1 (h5 g cur z e)).trans e⟩
theorem grown_of_below {w w' : World} (h : Below w.heap.size w w') : w.grownBy w' none := ⟨h.os, h.tape, h.output, h.size, fun i hi _ => h.block i hi⟩

theorem lift_perm {α β : Type} (f : α → β) : ∀ (ks : List β) (A : List α), ks.Perm (A.map f) → ∃ xs : List α, xs.Perm A ∧ xs.map f = ks
  | [], A, h => by
    have h1 := h.length_eq
    rw [List.length_map] at h1
    have h2 : A = [] := List.length_eq_zero_iff.1 h1.symm
    subst h2
    exact ⟨[], .refl _, rfl⟩
  | k :: ks, A, h => by
    obtain ⟨x, hx, hk⟩ := List.mem_map.1 (h.mem_iff.1 (List.mem_cons_self (a := k) (l := ks)))
    obtain ⟨s, t, rfl⟩ := List.append_of_mem hx
    have h1 : (k :: ks).Perm (k :: (s ++ t).map f) := by
      refine h.trans ?_
      rw [List.map_append, List.map_cons, hk, List.map_append]
      exact List.perm_middle
    obtain ⟨xs, hp, he⟩ := lift_perm f ks (s ++ t) (List.Perm.cons_inv h1)
    exact ⟨x :: xs, (hp.cons x).trans List.perm_middle.symm, by rw [List.map_cons, hk, he]⟩
theorem take_next {α : Type} : ∀ (xs : List α) (k : Nat) (x : α), xs[k]? = some x → xs.take (k + 1) = xs.take k ++ [x]
  | [], k, x, h => by cases h
  | y :: r, 0, x, h => by
    injection h with h
    subst h
    rfl
  | y :: r, k + 1, x, h => by
    rw [List.take_succ_cons, take_next r k x (by simpa using h), List.take_succ_cons]
    rfl
theorem keys_toD (L : List Kv) : strKeys (toD L) = L.map (fun p => p.1) := by
  show (L.map _).map _ = _
  rw [List.map_map]
  rfl
theorem info9 : (Try.prog.info? 9).map (fun i => (i.zero, i.size, i.bytes)) = some (some (.string ⟨#[]⟩), 1, 16) := by kernel_rfl
end Go.Proofs.Ytdackomidfofgaa
