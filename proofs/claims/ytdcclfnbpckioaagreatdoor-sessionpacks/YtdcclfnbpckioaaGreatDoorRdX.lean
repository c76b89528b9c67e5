/-
  Contracts of the document's own Reader (rostrumref01): Uint, Byte, Text, on a reader that has read p of n bytes, which lie below block L.
-/
import Derived.Test.YtdcclfnbpckioaaGreatDoorRdW
namespace Go.Proofs.YtdcclfnbpckioaaGreatDoor
open Go.RowKit
set_option linter.unusedVariables false

/-- The document's reader at block X: it has read p of the n bytes f, which lie below block L. -/
structure RefInv (w : World) (X L : Nat) (f : Nat → Int) (n p : Nat) : Prop where
  hp : p ≤ n
  big : n ≤ 140737488355328
  by_ : ∀ i, 0 ≤ f i ∧ f i ≤ 255
  free : w.frozen? ⟨X, 0, none⟩ = false
  hL : L ≤ X
  lies : ∃ ao c, w.cell? ⟨X, 0, none⟩ = some (.slice ao (n - p) c) ∧ n - p ≤ c ∧ c ≤ 9223372036854775807 ∧ (n - p = 0 ∨ ∃ b off, ao = some ⟨b, off, none⟩ ∧ b < L ∧ ∀ i, i < n - p → w.cell? ⟨b, off + i, none⟩ = some (.int .u8 (sh f p i)))

theorem RefInv.lay {w : World} {L : Nat} {ao : Option Addr} {m : Nat} {f : Nat → Int} (h : m = 0 ∨ ∃ b off, ao = some ⟨b, off, none⟩ ∧ b < L ∧ ∀ i, i < m → w.cell? ⟨b, off + i, none⟩ = some (.int .u8 (f i))) : Lay w ao m f := by
  rcases h with h | ⟨b, off, h1, h2, h3⟩
  · exact .inl h
  · exact .inr ⟨b, off, h1, h3⟩

theorem RefInv.kept {w w' : World} {X L : Nat} {f : Nat → Int} {n p : Nat} (h : RefInv w X L f n p) (hX : w'.heap[X]? = w.heap[X]?) (hL : ∀ k, k < L → w'.heap[k]? = w.heap[k]?) : RefInv w' X L f n p := by
  obtain ⟨ao, c, h1, h2, h3, h4⟩ := h.lies
  refine ⟨h.hp, h.big, h.by_, (World.frozen?_of_block (w := w) hX).trans h.free, h.hL, ao, c, (World.cell?_of_block (w := w) hX).trans h1, h2, h3, ?_⟩
  rcases h4 with h4 | ⟨b, off, k1, k2, k3⟩
  · exact .inl h4
  · exact .inr ⟨b, off, k1, k2, fun i hi => (World.cell?_of_block (w := w) (hL b k2)).trans (k3 i hi)⟩

/-- The document's reader moved on by k bytes. -/
theorem RefInv.moved {w : World} {X L : Nat} {f : Nat → Int} {n p : Nat} (h : RefInv w X L f n p) (b off c k o' : Nat) (hb : b < L) (hcell : ∀ i, i < n - p → w.cell? ⟨b, off + i, none⟩ = some (.int .u8 (sh f p i))) (hk : k ≤ n - p)
    (hc : n - p ≤ c) (hc2 : c ≤ 9223372036854775807) (u : Value) (hu : w.cell? ⟨X, 0, none⟩ = some u) (ho : n - p - k = 0 ∨ o' = off + k) :
    RefInv (w.setCell ⟨X, 0, none⟩ (.slice (some ⟨b, o', none⟩) (n - p - k) (c - k))) X L f n (p + k) := by
  have hp := h.hp
  have hL := h.hL
  have hf := h.free
  refine ⟨by omega, h.big, h.by_, ?_, hL, some ⟨b, o', none⟩, c - k, ?_, by omega, by omega, ?_⟩
  · go_simp
  · rw [World.cell?_setCell_same _ _ _ hu, Nat.sub_sub]
  · rcases ho with ho | ho
    · exact .inl (by omega)
    · refine .inr ⟨b, o', rfl, hb, fun i hi => ?_⟩
      subst ho
      rw [World.cell?_setCell_other _ _ _ _ (fun e => by have : X = b := congrArg Addr.block e; omega), Nat.add_assoc, hcell (k + i) (by omega)]
      simp [sh, Nat.add_assoc]

/-- The world behind 'r.B = r.B[k:]'. -/
def Cuts (w w' : World) (X b off r c k : Nat) : Prop := ∃ o', (r - k = 0 ∨ o' = off + k) ∧ w' = w.setCell ⟨X, 0, none⟩ (.slice (some ⟨b, o', none⟩) (r - k) (c - k))
theorem Cuts.at_end {w w' : World} {X b off r : Nat} (h : w' = w.setCell ⟨X, 0, none⟩ (.slice (some ⟨b, off, none⟩) 0 0)) : Cuts w w' X b off r r r := ⟨off, .inl (Nat.sub_self _), by rw [h, Nat.sub_self]⟩
theorem Cuts.within {w w' : World} {X b off r c k : Nat} (h : w' = w.setCell ⟨X, 0, none⟩ (.slice (some ⟨b, off + k, none⟩) (r - k) (c - k))) : Cuts w w' X b off r c k := ⟨off + k, .inr rfl, h⟩

end Go.Proofs.YtdcclfnbpckioaaGreatDoor
