/-
  Contract of wire.Over: a reader at the beginning of a copy of the bytes. Condition: at most 2^47 bytes.
-/
import Derived.Test.YtdcclfnbpckioaaGreatDoorRdW
namespace Go.Proofs.YtdcclfnbpckioaaGreatDoor
open Go.RowKit
set_option linter.unusedVariables false

end Go.Proofs.YtdcclfnbpckioaaGreatDoor
