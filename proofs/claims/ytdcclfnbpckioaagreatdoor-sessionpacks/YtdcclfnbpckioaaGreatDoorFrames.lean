/-
  The law WireFrames: the walk. Conditions: each slice has at most 2^47 bytes; the table is laid.
-/
import Derived.Test.YtdcclfnbpckioaaGreatDoorTornMath
import Derived.Test.YtdcclfnbpckioaaGreatDoorUnfY
namespace Go.Proofs.YtdcclfnbpckioaaGreatDoor
open Go.RowKit
set_option linter.unusedVariables false

/-- A frame's bytes, or the error. -/
def frm (f : Nat → Int) (n : Nat) : Int × List Int := if 65536 < n then (12, []) else (0, frameB f n)
theorem wFrm (a0 : Option Addr) (n c : Nat) (f : Nat → Int) (w : World) (hby : ∀ i, 0 ≤ f i ∧ f i ≤ 255) (hf : From w a0 n f) (hc0 : a0 = none → c = 0) (ht : Tab w) :
    Calls Tryz.prog 56 #[.slice a0 n c] w fun e w' => ∃ v', e = .returned (.tuple #[v', .int .i64 (frm f n).1]) ∧ Own w' w.heap.size v' (frm f n).2 ∧ Below w.heap.size w w' := by
  unfold frm
  by_cases h : 65536 < n
  · rw [if_pos h]
    exact (wFrame_long a0 n c w h).mono fun e w' ⟨h1, h2⟩ => ⟨_, h1, own_nil _ _, by rw [h2]; exact Below.refl _ _⟩
  · rw [if_neg h]
    exact wFrame_ok a0 n c f w (by omega) hby hf hc0 ht
theorem xFrm (a0 : Option Addr) (n c : Nat) (f : Nat → Int) (w : World) (hby : ∀ i, 0 ≤ f i ∧ f i ≤ 255) (hf : From w a0 n f) (hc0 : a0 = none → c = 0) :
    Calls Tryz.prog 46 #[.slice a0 n c] w fun e w' => ∃ v', e = .returned (.tuple #[v', .int .i64 (frm f n).1]) ∧ Own w' w.heap.size v' (frm f n).2 ∧ Below w.heap.size w w' := by
  unfold frm
  by_cases h : 65536 < n
  · rw [if_pos h]
    exact (xFrame_long a0 n c w h).mono fun e w' ⟨h1, h2⟩ => ⟨_, h1, own_nil _ _, by rw [h2]; exact Below.refl _ _⟩
  · rw [if_neg h]
    exact xFrame_ok a0 n c f w (by omega) hby hf hc0

/-- Two slices of the call's own that have the same bytes. -/
theorem equal_own {w : World} {B1 B2 : Nat} {v1 v2 : Value} {xs : List Int} (h1 : Own w B1 v1 xs) (h2 : Own w B2 v2 xs) : Calls Tryz.prog 16 #[v1, v2] w fun e w' => e = .returned (.bool true) ∧ w' = w := by
  obtain ⟨a1, c1, rfl, f1, _⟩ := h1.open
  obtain ⟨a2, c2, rfl, f2, _⟩ := h2.open
  exact equal_yes a1 a2 xs.length c1 xs.length c2 (fn xs) (fn xs) w f1 f2 rfl

end Go.Proofs.YtdcclfnbpckioaaGreatDoor
