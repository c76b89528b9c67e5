/-
  Numbers in so many digits, with noughts ahead: session's digits and pieceKey, and the document's.
-/
import Derived.Test.YtdcclfnbpckioaaGreatDoorShelfP
import Derived.Test.YtdcclfnbpckioaaGreatDoorNqN
namespace Go.Proofs.YtdcclfnbpckioaaGreatDoor
open Go.RowKit
set_option linter.unusedVariables false

set_option maxRecDepth 100000 in
set_option maxHeartbeats 2000000 in
theorem mul64 (c : Int) (hc : c = 2 ∨ c = 3) (w : World) : Calls Tryz.prog 84 #[.int .u64 1, .int .u64 c] w fun e w' => e = .returned (.tuple #[.int .u64 0, .int .u64 c]) ∧ w' = w := by
  rcases hc with rfl | rfl
  all_goals
    go_enter Tryz.func84, Tryz.ntmps84
    go_wp2
    go_ret2
    exact ⟨rfl, rfl⟩
set_option maxRecDepth 100000 in
set_option maxHeartbeats 2000000 in
theorem bmul (c : Int) (hc : c = 2 ∨ c = 3) (w : World) : Calls Tryz.prog 61 #[.int .u64 1, .int .u64 c] w fun e w' => e = .returned (.tuple #[.int .u64 0, .int .u64 c]) ∧ w' = w := by
  have HM := mul64 c hc w
  rcases hc with rfl | rfl
  all_goals
    go_enter Tryz.func61, Tryz.ntmps61
    go_wp2_with (go_at_call 84; refine HM.mono ?_; rintro e w2 ⟨rfl, rfl⟩)
    go_ret2
    exact ⟨rfl, rfl⟩
def noughts64 : ByteArray := ⟨#[48, 48, 48, 48, 48, 48, 48, 48, 48, 48, 48, 48, 48, 48, 48, 48, 48, 48, 48, 48, 48, 48, 48, 48, 48, 48, 48, 48, 48, 48, 48, 48, 48, 48, 48, 48, 48, 48, 48, 48, 48, 48, 48, 48, 48, 48, 48, 48, 48, 48, 48, 48, 48, 48, 48, 48, 48, 48, 48, 48, 48, 48, 48, 48]⟩
theorem n64_size : noughts64.size = 64 := rfl
theorem n64_two : noughts64.extract 0 2 = ⟨(List.replicate 2 48).toArray⟩ := by decide +kernel
theorem n64_three : noughts64.extract 0 3 = ⟨(List.replicate 3 48).toArray⟩ := by decide +kernel
set_option maxRecDepth 100000 in
set_option maxHeartbeats 2000000 in
theorem hasPl (Z : ByteArray) (b : Bool) (w : World) (h1 : 1 ≤ Z.size) (h2 : ((Z.extract 0 1).toList == [48]) = b) : Calls Tryz.prog 85 #[.string Z, .string ⟨#[48]⟩] w fun e w' => e = .returned (.bool b) ∧ w' = w := by
  have h3 : (1 : Int) ≤ (Z.size : Int) := by omega
  go_enter Tryz.func85, Tryz.ntmps85
  go_wp2
  go_ret
  exact ⟨rfl, rfl⟩
set_option maxRecDepth 100000 in
set_option maxHeartbeats 2000000 in
theorem hasP (Z : ByteArray) (b : Bool) (w : World) (h1 : 1 ≤ Z.size) (h2 : ((Z.extract 0 1).toList == [48]) = b) : Calls Tryz.prog 62 #[.string Z, .string ⟨#[48]⟩] w fun e w' => e = .returned (.bool b) ∧ w' = w := by
  have HM := hasPl Z b w h1 h2
  clear h1 h2
  go_enter Tryz.func62, Tryz.ntmps62
  go_wp2_with (go_at_call 85; refine HM.mono ?_; rintro e w2 ⟨rfl, rfl⟩)
  go_ret
  exact ⟨rfl, rfl⟩
set_option maxRecDepth 100000 in
set_option maxHeartbeats 4000000 in
theorem repeat0 (c : Nat) (hc : c ≤ 3) (w : World) :
    Calls Tryz.prog 49 #[.string ⟨#[48]⟩, .int .i64 (c : Int)] w fun e w' => e = .returned (.string ⟨(List.replicate c 48).toArray⟩) ∧ w' = w := by
  have hcc : c = 0 ∨ c = 1 ∨ c = 2 ∨ c = 3 := by omega
  rcases hcc with rfl | rfl | rfl | rfl
  · go_enter Tryz.func49, Tryz.ntmps49
    go_wp2
    go_ret
    exact ⟨rfl, rfl⟩
  · go_enter Tryz.func49, Tryz.ntmps49
    go_wp2
    go_ret
    exact ⟨rfl, rfl⟩
  · go_enter Tryz.func49, Tryz.ntmps49
    go_wp2_with (first | (go_at_call 62; refine (hasP _ false _ (by decide +kernel) (by rw [ByteArray.toList_eq]; decide +kernel)).mono ?_; rintro e w3 ⟨rfl, rfl⟩) | (go_at_call 62; refine (hasP _ true _ (by decide +kernel) (by rw [ByteArray.toList_eq]; decide +kernel)).mono ?_; rintro e w3 ⟨rfl, rfl⟩) | (go_at_call 61; refine (bmul 2 (.inl rfl) w).mono ?_; rintro e w2 ⟨rfl, rfl⟩))
    go_ret
    exact ⟨congrArg (fun z => Ending.returned (.string z)) n64_two, rfl⟩
  · go_enter Tryz.func49, Tryz.ntmps49
    go_wp2_with (first | (go_at_call 62; refine (hasP _ false _ (by decide +kernel) (by rw [ByteArray.toList_eq]; decide +kernel)).mono ?_; rintro e w3 ⟨rfl, rfl⟩) | (go_at_call 62; refine (hasP _ true _ (by decide +kernel) (by rw [ByteArray.toList_eq]; decide +kernel)).mono ?_; rintro e w3 ⟨rfl, rfl⟩) | (go_at_call 61; refine (bmul 3 (.inr rfl) w).mono ?_; rintro e w2 ⟨rfl, rfl⟩))
    go_ret
    exact ⟨congrArg (fun z => Ending.returned (.string z)) n64_three, rfl⟩
end Go.Proofs.YtdcclfnbpckioaaGreatDoor
