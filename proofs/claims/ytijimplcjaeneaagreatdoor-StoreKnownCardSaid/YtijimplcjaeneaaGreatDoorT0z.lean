
/- Strings as lists of bytes. -/
import Derived.Test.YtijimplcjaeneaaGreatDoorQ1bz
import Derived.Lib.Bytealg
set_option linter.unusedVariables false
set_option linter.unusedSimpArgs false
namespace Go.AI
section
variable {P : Program} {H : Heap} {t : TypeId} {l : List Int}
end
end Go.AI
namespace Go.Proofs.YtijimplcjaeneaaGreatDoor
open Go.AI
end Go.Proofs.YtijimplcjaeneaaGreatDoor

