
/- Picked out of Tp.tpl. -/
import Derived.Test.YtijimplcjaeneaaGreatDoorQ1z
set_option linter.unusedVariables false
set_option linter.unusedSimpArgs false
namespace Go.Proofs.YtijimplcjaeneaaGreatDoor
open Go.AI
end Go.Proofs.YtijimplcjaeneaaGreatDoor


