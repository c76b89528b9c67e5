/-
  Contracts of wire.Unframe: what a frame's bytes come to, or the error. Condition: the slice has at most 2^47 bytes; the table is laid.
-/
import Derived.Test.YtdcclfnbpckioaaGreatDoorFrame
import Derived.Test.YtdcclfnbpckioaaGreatDoorNum
import Derived.Deep.QuietTactic
import Derived.BigQuiet

namespace Go.Proofs.YtdcclfnbpckioaaGreatDoor
open Go.RowKit
set_option linter.unusedVariables false

theorem number_any (ao : Option Addr) (n c : Nat) (f : Nat → Int) (w : World) (hbig : n ≤ 140737488355328) (hby : ∀ i, 0 ≤ f i ∧ f i ≤ 255) (hl : Lay w ao n f) :
    Calls Tryz.prog 91 #[.slice ao n c] w fun e w' => e = .returned (.tuple #[.int .i64 (Wm.num f n).1, .int .i64 (Wm.num f n).2.1, .int .i64 (Wm.num f n).2.2]) ∧ w' = w := by
  rcases hl with rfl | ⟨b, off, rfl, hc⟩
  · exact number_none ao c f w
  · exact number_at b off n c f w hbig hby hc
end Go.Proofs.YtdcclfnbpckioaaGreatDoor
