/-
  What a loop that writes over a slice's bytes leaves: one block alone has turned, and its cells are bytes still. No program, no condition.
-/
import Derived.Test.YtbpolfoagmehhaaMem
namespace Go.Proofs.Ytbpolfoagmehhaa
open Go.RowKit

structure Spoilt (g n : Nat) (W wr : World) : Prop where
  only : Only g W wr
  cells : ∀ j, j < n → ∃ v, wr.cell? ⟨g, j, none⟩ = some (.int .u8 v)
  free : ∀ j, j < n → wr.frozen? ⟨g, j, none⟩ = false

theorem Spoilt.set {g n : Nat} {W wr : World} (h : Spoilt g n W wr) (k : Nat) (hk : k < n) (v : Int) : Spoilt g n W (wr.setCell ⟨g, k, none⟩ (.int .u8 v)) := by
  refine ⟨h.only.setCell rfl _, fun j hj => ?_, fun j hj => ?_⟩
  · by_cases e : j = k
    · subst e
      obtain ⟨u, hu⟩ := h.cells j hj
      exact ⟨v, World.cell?_setCell_same _ _ _ hu⟩
    · obtain ⟨u, hu⟩ := h.cells j hj
      exact ⟨u, by rw [World.cell?_setCell_other _ _ _ _ (fun e' => e (congrArg Addr.off e').symm)]; exact hu⟩
  · have := h.free j hj
    go_simp

/-- The same of a slice that may be nil. -/
def SpoiltO (ao : Option Addr) (n : Nat) (W wr : World) : Prop := (n = 0 ∧ wr = W) ∨ ∃ g, ao = some ⟨g, 0, none⟩ ∧ Spoilt g n W wr
end Go.Proofs.Ytbpolfoagmehhaa
