/-
  Contract of slices.Clone over numbers of one's own.
-/
import Derived.Test.YthfokciijcmhbaaGreatDoorGai
import Derived.Test.YthfokciijcmhbaaGreatDoorGad
namespace Go.Proofs.YthfokciijcmhbaaGreatDoor
open Go.RowKit
set_option linter.unusedVariables false

theorem row_mono {w : World} {B B' : Nat} {e : TypeId} {sz : Nat} {v : Value} {n : Nat} {xs : List Value} (h : w.ownsRow B e sz v n xs) (hB : B' ≤ B) : w.ownsRow B' e sz v n xs := by
  refine ⟨h.1, ?_⟩
  rcases h.2 with h2 | ⟨g, cap, cur, h1, h2, h3⟩
  · exact .inl h2
  · exact .inr ⟨g, cap, cur, h1, Nat.le_trans hB h2, h3⟩
theorem cloneI (v : Value) (n : Nat) (f : Nat → Int) (w : World) (hbig : n ≤ 1048576) (hf : OwnI w 0 v (lst f n)) :
    Calls Tryz.prog 48 #[v] w fun e w' => ∃ v', e = .returned v' ∧ OwnI w' w.heap.size v' (lst f n) ∧ Below w.heap.size w w' := by
  obtain ⟨a, c, rfl⟩ := ownI_any hf
  have hz : a = none → n = 0 ∧ c = 0 := fun e => by
    have h9 := hf.2
    rw [lst_length] at h9
    rcases h9 with ⟨h0, h1⟩ | ⟨g, cap, cur, h0, _⟩
    · injection h0 with _ _ h2
      exact ⟨h1, h2⟩
    · rw [e] at h0
      cases h0
  refine (cloneF a n c f w (by omega) hf.fromI2 hz).mono ?_
  rintro e w' ⟨a', c', rfl, ho, hb⟩
  exact ⟨_, rfl, ho, hb⟩
end Go.Proofs.YthfokciijcmhbaaGreatDoor
