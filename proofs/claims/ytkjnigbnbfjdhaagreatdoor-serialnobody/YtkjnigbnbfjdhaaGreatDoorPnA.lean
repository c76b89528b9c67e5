/-
  A new heap of the laws of prims; Pop of nothing; hold.Missing of a heap without roots.
-/
import Derived.Test.YtkjnigbnbfjdhaaGreatDoorHpA
namespace Go.Proofs.YtkjnigbnbfjdhaaGreatDoor
open Go.RowKit
set_option linter.unusedVariables false

theorem h_may (z : Int) (w : World) (h1 : decide (16 ≤ z) = true) (h2 : decide (z ≤ 1048576) = true) : Calls Tryz.prog 136 #[.int .i64 z] w fun r w' => r = .returned (.bool true) ∧ w' = w := by
  go_enter Tryz.func136, Tryz.ntmps136
  go_wp2
  go_ret
  exact ⟨rfl, rfl⟩
theorem p_new (y : Int) (w : World) (h1 : decide (16 ≤ y) = true) (h2 : decide (y ≤ 1048576) = true) : Calls Tryz.prog 52 #[.int .i64 y, .int .i64 200000] w fun r w' => r = .returned (.tuple #[.pointer (some ⟨w.heap.size, 0, none⟩), .int .i64 0]) ∧ Hd w' w.heap.size (.slice none 0 0) 0 200000 (.slice none 0 0) 0 y (.slice none 0 0) (.slice none 0 0) 0 0 0 false ∧ Below w.heap.size w w' := by
  have H1 : Hid (Calls Tryz.prog 136 #[.int .i64 y] w fun r w' => r = .returned (.bool true) ∧ w' = w) := h_may y w h1 h2
  have H2 : Hid (Calls Tryz.prog 136 #[.int .i64 200000] w fun r w' => r = .returned (.bool true) ∧ w' = w) := h_may 200000 w rfl rfl
  obtain ⟨o, ho⟩ : ∃ o, Obj.cells #[.slice none 0 0, .int .i64 0, .int .i64 200000, .slice none 0 0, .int .i64 0, .int .i64 y, .slice none 0 0, .slice none 0 0, .int .i64 0, .int .i64 0, .int .i64 0, .bool false] 37 = o := ⟨_, rfl⟩
  clear h1 h2
  go_enter Tryz.func52, Tryz.ntmps52
  go_wp2_with fail
  refine H1.out.mono ?_
  rintro r w1 ⟨rfl, hw⟩
  obtain rfl : w = w1 := hw.symm
  clear hw H1
  go_wp2_with fail
  refine H2.out.mono ?_
  rintro r w1 ⟨rfl, hw⟩
  obtain rfl : w = w1 := hw.symm
  clear hw H2
  go_wp2
  try rw [ho]
  go_ret2
  exact ⟨rfl, by rw [← ho]; exact heap_alloc_at _ _ _ rfl, (Below.refl _ w).alloc (Nat.le_refl _) o⟩
/-- A new heap with room for so many young cells. -/
def Fh (y : Int) (w : World) (h : Nat) : Prop := Hd w h (.slice none 0 0) 0 200000 (.slice none 0 0) 0 y (.slice none 0 0) (.slice none 0 0) 0 0 0 false
theorem p_room16 (w : World) : Calls Tryz.prog 20 #[] w fun r w' => r = .returned (.pointer (some ⟨w.heap.size, 0, none⟩)) ∧ Fh 5000 w' w.heap.size ∧ Below w.heap.size w w' := by
  have H1 : Hid (Calls Tryz.prog 52 #[.int .i64 5000, .int .i64 200000] w fun r w' => r = .returned (.tuple #[.pointer (some ⟨w.heap.size, 0, none⟩), .int .i64 0]) ∧ Hid (Fh 5000 w' w.heap.size ∧ Below w.heap.size w w')) := p_new 5000 w rfl rfl
  go_enter Tryz.func20, Tryz.ntmps20
  go_wp2_with fail
  refine H1.out.mono ?_
  rintro r w1 ⟨rfl, HF⟩
  go_wp2
  go_ret
  exact ⟨rfl, HF.out⟩

theorem p_pop0 {w : World} {h : Nat} {so : Value} {oc om : Int} {sy : Value} {yc ym : Int} {st : Value} {sft mi ma : Int} {sp : Bool} (k : Hd w h so oc om sy yc ym (.slice none 0 0) st sft mi ma sp) (hy : (ym == 0) = false) : Calls Tryz.prog 32 #[.pointer (some ⟨h, 0, none⟩), .int .i64 0] w fun r w' => r = .returned (.int .i64 0) ∧ Hid (Hd w' h so oc om sy yc ym (.slice none 0 0) st sft mi ma sp ∧ Part (fun q => q = h) w w') := by
  have HM : Hid (Calls Tryz.prog 95 #[.pointer (some ⟨h, 0, none⟩)] w fun r w' => r = .returned (.bool false) ∧ w' = w) := h_missing k hy
  obtain ⟨_, _, _, _, _, _, c6, _⟩ := hget k
  have f6 := cells_free k 6
  have HE : Hid (∀ n, Hd ((w.drewN n).setCell ⟨h, 6, none⟩ (.slice none 0 0)) h so oc om sy yc ym (.slice none 0 0) st sft mi ma sp ∧ Part (fun q => q = h) w ((w.drewN n).setCell ⟨h, 6, none⟩ (.slice none 0 0))) := fun n =>
    ⟨heap_set_at (w := w.drewN n) k _, ((Part.refl (fun q => q = h) w).drewN n).setCell (p := ⟨h, 6, none⟩) (fun _ => rfl) _⟩
  clear k hy
  go_enter Tryz.func32, Tryz.ntmps32
  go_wp2_with fail
  refine HM.out.mono ?_
  rintro r w1 ⟨rfl, hw⟩
  obtain rfl : w = w1 := hw.symm
  clear hw HM
  go_wp2_with fail
  go_region
  go_wp2
  go_ret
  exact ⟨rfl, by first | exact HE.out 0 | exact HE.out 1 | exact HE.out 2 | exact HE.out 3⟩
theorem p_missing {w : World} {h : Nat} {so : Value} {oc om : Int} {sy : Value} {yc ym : Int} {st : Value} {sft mi ma : Int} {sp : Bool} (k : Hd w h so oc om sy yc ym (.slice none 0 0) st sft mi ma sp) (hy : (ym == 0) = false) : Calls Tryz.prog 25 #[.pointer (some ⟨h, 0, none⟩)] w fun r w' => r = .returned (.bool false) ∧ Hid (Hd w' h so oc om sy yc ym (.slice none 0 0) st sft mi ma sp ∧ Part (fun q => q = h) w w') := by
  have HM : Hid (Calls Tryz.prog 32 #[.pointer (some ⟨h, 0, none⟩), .int .i64 0] w fun r w' => r = .returned (.int .i64 0) ∧ Hid (Hd w' h so oc om sy yc ym (.slice none 0 0) st sft mi ma sp ∧ Part (fun q => q = h) w w')) := p_pop0 k hy
  clear k hy
  go_enter Tryz.func25, Tryz.ntmps25
  go_wp2_with fail
  refine HM.out.mono ?_
  rintro r w1 ⟨rfl, HF⟩
  go_wp2
  go_ret
  exact ⟨rfl, HF⟩
end Go.Proofs.YtkjnigbnbfjdhaaGreatDoor
