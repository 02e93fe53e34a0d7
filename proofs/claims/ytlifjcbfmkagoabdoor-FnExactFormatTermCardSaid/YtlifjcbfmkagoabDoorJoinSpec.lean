/-
  Join of the model: the contract (no statement of its own).
-/
import Derived.Test.YtlifjcbfmkagoabDoorJoinMath
import Derived.Test.YtlifjcbfmkagoabDoorChr
namespace Go.Proofs.YtlifjcbfmkagoabDoor
open Go.RowKit
set_option linter.unusedVariables false
set_option linter.unusedSimpArgs false
end Go.Proofs.YtlifjcbfmkagoabDoor
