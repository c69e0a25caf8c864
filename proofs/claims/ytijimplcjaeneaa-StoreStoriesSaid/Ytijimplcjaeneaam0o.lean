
/- The reference's checks of days and chains. -/
import Derived.Test.Ytijimplcjaeneaal4o
import Derived.Test.YtijimplcjaeneaaO4
set_option linter.unusedVariables false
set_option linter.unusedSimpArgs false
namespace Go.Proofs.Ytijimplcjaeneaa
open Go.AI
end Go.Proofs.Ytijimplcjaeneaa

