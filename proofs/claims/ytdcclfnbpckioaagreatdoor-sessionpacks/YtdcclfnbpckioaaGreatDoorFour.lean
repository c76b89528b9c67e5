/-
  Contracts of wire.putSum, wire.readSum and the document's own four: a sum as four bytes, the lowest first.
-/
import Derived.Test.YtdcclfnbpckioaaGreatDoorPuts
namespace Go.Proofs.YtdcclfnbpckioaaGreatDoor
open Go.RowKit
set_option linter.unusedVariables false

def fourAt (s k : Nat) : Int := ((s / 256 ^ k % 256 : Nat) : Int)
def fourB (s : Nat) : List Int := [fourAt s 0, fourAt s 1, fourAt s 2, fourAt s 3]
theorem fourB_drop (s k : Nat) (h : k < 4) : (fourB s).drop k = fourAt s k :: (fourB s).drop (k + 1) := by
  have hk : k = 0 ∨ k = 1 ∨ k = 2 ∨ k = 3 := by omega
  rcases hk with h | h | h | h <;> subst h <;> rfl

set_option maxHeartbeats 400000 in
theorem four (s : Nat) (hs : s < 2 ^ 32) (w : World) :
    Calls Tryz.prog 58 #[.int .u32 (s : Int)] w fun e w' => e = .returned (.slice (some ⟨w.heap.size, 0, none⟩) 4 4) ∧ w' = w.alloc (.cells #[.int .u8 (fourAt s 0), .int .u8 (fourAt s 1), .int .u8 (fourAt s 2), .int .u8 (fourAt s 3)] 5) := by
  have e0 : fourAt s 0 = (s : Int) % 256 := by simp [fourAt]
  have e1 : fourAt s 1 = (s : Int) / 256 % 256 := by simp [fourAt]
  have e2 : fourAt s 2 = (s : Int) / 65536 % 256 := by simp [fourAt]
  have e3 : fourAt s 3 = (s : Int) / 16777216 := by unfold fourAt; simp; omega
  rw [e0, e1, e2, e3]
  clear e0 e1 e2 e3
  go_enter Tryz.func58, Tryz.ntmps58
  go_wp2
  go_ret
  exact ⟨rfl, rfl⟩

end Go.Proofs.YtdcclfnbpckioaaGreatDoor
