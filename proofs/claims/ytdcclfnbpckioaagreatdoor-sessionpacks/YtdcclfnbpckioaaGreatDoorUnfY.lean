/-
  Contracts of the document's own Unframe, and of both in one word (unf): what a frame's bytes come to, or the error.
-/
import Derived.Test.YtdcclfnbpckioaaGreatDoorUnf
import Derived.Deep.RegionWith
import Derived.Outline
import Derived.Deep.DeepCutAuto
namespace Go.Proofs.YtdcclfnbpckioaaGreatDoor
open Go.RowKit
set_option linter.unusedVariables false

theorem rd4 (f : Nat → Int) : rd f 4 = (f 0).toNat + (f 1).toNat * 256 + (f 2).toNat * 65536 + (f 3).toNat * 16777216 := by
  simp only [rd, Nat.pow_zero, Nat.mul_one, Nat.zero_add]
theorem four_of_rd {f : Nat → Int} (h : ∀ i, 0 ≤ f i ∧ f i ≤ 255) (Z : Nat) (e : rd f 4 = Z) (i : Nat) (hi : i < 4) : fourAt Z i = f i := by
  have h0 := h 0
  have h1 := h 1
  have h2 := h 2
  have h3 := h 3
  rw [rd4] at e
  have hk : i = 0 ∨ i = 1 ∨ i = 2 ∨ i = 3 := by omega
  unfold fourAt
  rcases hk with r | r | r | r <;> subst r <;> simp <;> omega
theorem rd_of_four {f : Nat → Int} (Z : Nat) (hZ : Z < 2 ^ 32) (e : ∀ i, i < 4 → fourAt Z i = f i) : rd f 4 = Z := by
  have h0 := e 0 (by omega)
  have h1 := e 1 (by omega)
  have h2 := e 2 (by omega)
  have h3 := e 3 (by omega)
  rw [rd4, ← h0, ← h1, ← h2, ← h3]
  unfold fourAt
  simp
  omega
theorem text_eq {f : Nat → Int} (h : ∀ i, 0 ≤ f i ∧ f i ≤ 255) (Z : Nat) (e : rd f 4 = Z) : strF (fourAt Z) 4 = strF f 4 := by
  unfold strF
  rw [lst_ext (fun i hi => four_of_rd h Z e i hi)]
theorem fourAt_by (Z i : Nat) : 0 ≤ fourAt Z i ∧ fourAt Z i ≤ 255 := by unfold fourAt; omega
theorem text_ne {f : Nat → Int} (h : ∀ i, 0 ≤ f i ∧ f i ≤ 255) (Z : Nat) (hZ : Z < 2 ^ 32) (e : rd f 4 ≠ Z) : strF (fourAt Z) 4 ≠ strF f 4 := fun hs => e (rd_of_four Z hZ (fun i hi => lst_inj (strF_inj (fourAt_by Z) h hs) i hi))
theorem wrapI (z : Int) (h : -9223372036854775808 ≤ z ∧ z ≤ 9223372036854775807) : IntKind.i64.wrap z = z := by rw [IntKind.wrap_i64]; omega
theorem From.drew1 {w : World} {ao : Option Addr} {n : Nat} {f : Nat → Int} (h : From w ao n f) : From w.drew ao n f := h

end Go.Proofs.YtdcclfnbpckioaaGreatDoor
